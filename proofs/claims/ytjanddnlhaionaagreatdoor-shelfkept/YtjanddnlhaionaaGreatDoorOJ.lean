/-
  The contracts of listCell: of rows, of kids, of strings. No condition but that numbers are ints and that there are at most 1000.
-/
import Derived.Test.YtjanddnlhaionaaGreatDoorOI
namespace Go.Proofs.YtjanddnlhaionaaGreatDoor
open Go.RowKit
open L4 (C LIn LNF Unf Wf rcells rowC)
open L2 (Row Vl RowsAt rowsOK valOK)

def RowW (r : Row) : Prop := (-9223372036854775808 ≤ r.1 ∧ r.1 ≤ 9223372036854775807) ∧ (-9223372036854775808 ≤ r.2.1 ∧ r.2.1 ≤ 9223372036854775807) ∧ (-9223372036854775808 ≤ r.2.2.2.1 ∧ r.2.2.2.1 ≤ 9223372036854775807) ∧ r.2.2.2.2.size ≤ 9223372036854775807

/-- What listCell's loop keeps: the result's place, what was there, and the cells so far. -/
structure LC (w : World) (v : Value) (D : List (C × Value)) (W : World) : Prop where
  below : Below (w.heap.size + 1) (w.alloc (.cells #[.int .i64 0, .int .i64 0, .string ⟨#[]⟩, .slice none 0 0] 38)) W
  own : OwnN W (w.heap.size + 1) v D
set_option maxRecDepth 100000 in
theorem LC.start (w : World) : LC w (.slice none 0 0) [] (w.alloc (.cells #[.int .i64 0, .int .i64 0, .string ⟨#[]⟩, .slice none 0 0] 38)) := ⟨Below.refl _ _, OwnN.nil _ _⟩
set_option maxRecDepth 100000 in
theorem LC.old {w : World} {v : Value} {D : List (C × Value)} {W : World} (h : LC w v D W) : Below w.heap.size w W :=
  ((Below.refl _ w).alloc (Nat.le_refl _) _).trans (h.below.mono (by omega))
set_option maxRecDepth 100000 in
theorem LC.size {w : World} {v : Value} {D : List (C × Value)} {W : World} (h : LC w v D W) : w.heap.size + 1 ≤ W.heap.size := by
  have := h.below.size
  simpa using this
set_option maxRecDepth 100000 in
theorem LC.step {w : World} {v : Value} {D : List (C × Value)} {W W' : World} (h : LC w v D W) (hb : Below W.heap.size W W') : LC w v D W' := ⟨h.below.trans (hb.mono h.size), h.own.step hb⟩
set_option maxRecDepth 100000 in
theorem LC.row {w : World} {v : Value} {D : List (C × Value)} {W : World} (h : LC w v D W) : W.heap[w.heap.size]? = some (.cells #[.int .i64 0, .int .i64 0, .string ⟨#[]⟩, .slice none 0 0] 38 (0, 0)) :=
  (h.below.block w.heap.size (by omega)).trans (heap_alloc_new w _)

set_option maxRecDepth 100000 in
/-- A list's cell laid into the result's place, as a row. -/
theorem ListOf.row {w w3 : World} {l : List C} {B : Nat} {A : Option Addr} {n cap D : Nat} {cs : Array Value} (hB : w.heap.size ≤ B) (hl : LNF (B + 1) w3 w3.heap.size D (.slice A n cap) l) (hb : Below w.heap.size w w3) :
    ListOf w l (.returned (.agg #[.int .i64 3, .int .i64 0, .string ⟨#[]⟩, .slice A n cap])) (w3.setRow B cs) := by
  refine ⟨A, n, cap, D, rfl, ?_, hb.trans ⟨rfl, rfl, rfl, by rw [setRow_size]; exact Nat.le_refl _, fun k hk => setRow_other _ _ _ _ (by omega)⟩⟩
  rw [setRow_size]
  refine LIn.lnf (S := fun b => b < w3.heap.size ∧ Unf (B + 1) w3 b) (fun b hb' => ⟨hb'.1, ?_⟩) ((lnf_lin hl).keep (fun b h => h) fun b o hb' => L4.cell_same (setRow_other _ _ _ _ ?_) o)
  · obtain ⟨-, h3, h4'⟩ := hb'
    obtain ⟨t0, t, h4⟩ := h4' (Nat.succ_pos _)
    have h5 := (setRow_other w3 B b cs (by omega)).trans h4
    exact ⟨⟨by omega, fun _ => ⟨t0, t, h5⟩⟩, fun o => by simp only [World.frozen?, h5]; simp⟩
  · have := hb'.2.1; omega

set_option maxRecDepth 100000 in
theorem append_end {w wr w2 w' : World} {A : Option Addr} {c0 d g cap : Nat} {D : List (C × Value)} {c : C} {u : Value} {o : Obj} (h0 : LC w (.slice A D.length c0) D wr) (h2 : LC w (.slice A D.length c0) D w2)
    (hL : LNF wr.heap.size w2 w2.heap.size d u c.l) (hwf : Wf c) (ho : w'.ownsRow (w.heap.size + 1) 38 4 (.slice (some ⟨g, 0, none⟩) (D.length + 1) cap) (D.length + 1) (rcells D ++ rowC (c, u)))
    (hg : (w2.alloc o).grownBy w' (Value.slice A D.length c0).ownBlock) (hgl : (Value.slice A D.length c0).ownBlock = some g ∨ g = w2.heap.size + 1) : LC w (.slice (some ⟨g, 0, none⟩) (D.length + 1) cap) (D ++ [(c, u)]) w' := by
  refine ⟨?_, h0.own.snoc h0.size h2.own hL hwf ho hg hgl⟩
  have hs := h2.size
  have hsz : (w2.alloc o).heap.size = w2.heap.size + 1 := by simp
  refine h2.below.trans ⟨hg.os, hg.tape, hg.output, by have := hg.size; omega, fun i hi => ?_⟩
  refine (hg.block i (by omega) fun e => ?_).trans (Below.heap_alloc w2 o i (by omega))
  have := (h2.own.row.lt i e.symm).1
  omega

set_option maxRecDepth 100000 in
set_option maxHeartbeats 2000000 in
theorem listCell26 (l : List Row) (v : Value) (w : World) (h : RowsAt w w.heap.size v l) (hl : l.length ≤ 1000) (hw : ∀ r ∈ l, RowW r) :
    Calls Tryz.prog 53 #[v, .func (.func 54) #[] #[]] w (ListOf w (l.map rowCl)) := by
  obtain ⟨i0, hi, hz0, hz1, hz2⟩ := L4.info25
  obtain ⟨A, cap, rfl, h1, h2, h3⟩ := h
  unfold maxLen at h2
  have HLC := Lib.hid (LC.start w)
  have HW := Lib.hid hw
  clear hw
  go_enter Tryz.func53, Tryz.ntmps53
  go_wp2_with fail
  go_loopw [5, 10] (fun s5 i wr => ∃ (k : Nat) (D : List (C × Value)), k ≤ l.length ∧ i = .int .i64 k ∧ Hid (LC w s5 D wr) ∧ Hid (D.map (·.1) = (l.take k).map rowCl) ∧ D.length = k) (fun _ i _ => l.length - (intOf i).toNat)
  case atStart => exact ⟨0, [], Nat.zero_le _, rfl, HLC.out, rfl, rfl⟩
  case round =>
    obtain ⟨k, D, hk, rfl, HL, HD, rfl⟩ := hrel
    clear HLC
    have HL0 := HL
    obtain ⟨A1, c1, rfl⟩ := HL.out.own.slice
    by_cases hlt : D.length < l.length
    · obtain ⟨b, o, rfl, hb, hr⟩ := h3 (by omega)
      have hrk := (hr D.length hlt).below HL.out.old hb
      have hwk := HW.out l[D.length] (List.getElem_mem hlt)
      have ht : l.take (D.length + 1) = l.take D.length ++ [l[D.length]] := List.take_succ_eq_append_getElem hlt
      have hbl : b < wr.heap.size := Nat.lt_of_lt_of_le hb HL.out.old.size
      generalize l[D.length] = r at hrk hwk ht
      obtain ⟨f, e, kk, n, s⟩ := r
      obtain ⟨c0, c1', c2, c3, c4⟩ := hrk
      obtain ⟨⟨b0, b1⟩, ⟨b2, b3⟩, ⟨b4, b5⟩, b6⟩ := hwk
      simp only at c0 c1' c2 c3 c4 b0 b1 b2 b3 b4 b5 b6
      have HR := Lib.hid (fun W => rowCell27 f e kk n s W b0 b1 b2 b3 b4 b5 b6)
      have HT : Hid (∀ u, ((D ++ [(rowCl (f, e, kk, n, s), u)]).map (fun x : C × Value => x.1)) = (l.take (D.length + 1)).map rowCl) := fun u => by rw [List.map_append, ht, List.map_append, HD.out]; rfl
      have HA := Lib.hid (HL.out.step ((Below.refl _ wr).alloc (Nat.le_refl _) (.cells #[.int .i64 f, .int .i64 e, .int .i64 kk, .int .i64 n, .string s] 93)))
      have HAB : Hid (Below wr.heap.size wr (wr.alloc (.cells #[.int .i64 f, .int .i64 e, .int .i64 kk, .int .i64 n, .string s] 93))) := (Below.refl _ wr).alloc (Nat.le_refl _) _
      clear ht b0 b1 b2 b3 b4 b5 b6 HD HL h3 hr
      go_wp2_with fail
      refine (HR.out _).mono ?_
      rintro _ w2 ⟨A2, m, cap2, d, rfl, hl2, hb2⟩
      have HL2 := Lib.hid (HA.out.step hb2)
      have HN : Hid (LNF wr.heap.size w2 w2.heap.size d (.slice A2 m cap2) (rowCl (f, e, kk, n, s)).l) := lnf_lo HAB.out.size hl2
      have hsz2 := HL2.out.size
      clear hl2 hb2 HA HR HAB c0 c1' c2 c3 c4
      go_wp2_with (at_builtin; go_must (refine wpList_append_lies _ rfl _ _ 36 rfl (w.heap.size + 1) 38 i0 _ 4 56 Tryz.underlying36 hi hz0 hz1 hz2 rfl (by omega) _ D.length (rcells D) rfl ?own ⟨w2.heap.size, 0, none⟩ 1 1 (rowC (rowCl (f, e, kk, n, s), .slice A2 m cap2)) rfl rfl ?news ?one (by omega) ?c3 ?c4 ?c5 _ rfl ?_))
      case own => exact World.ownsRow.alloc HL2.out.own.row _
      case news =>
        refine World.news_of_block (cs := #[.int .i64 3, .int .i64 0, .string ⟨#[]⟩, .slice A2 m cap2]) (t := 38) (fr := (0, 0)) ?_
        exact heap_alloc_new w2 (.cells #[.int .i64 3, .int .i64 0, .string ⟨#[]⟩, .slice A2 m cap2] 38)
      case one => simp [rowC, rowCl, listC, L4.k_mk, L4.n_mk, L4.s_mk, Value.oneCell']
      case c3 => unfold maxLen; omega
      case c4 => omega
      case c5 => simp; omega
      rintro g c w' ho hg hgl hlt2
      have hgl' : (Value.slice A1 D.length c1).ownBlock = some g ∨ g = w2.heap.size + 1 := by simpa using hgl
      have HE := Lib.hid (append_end HL0.out HL2.out HN.out ⟨by show (-9223372036854775808 : Int) ≤ 3; omega, by show (3 : Int) ≤ _; omega, by show (-9223372036854775808 : Int) ≤ 0; omega, by show (0 : Int) ≤ _; omega, by show (0 : Nat) ≤ _; omega⟩ ho hg hgl')
      have HT2 := Lib.hid (HT.out (.slice A2 m cap2))
      have hDl : (D ++ [(rowCl (f, e, kk, n, s), Value.slice A2 m cap2)]).length = D.length + 1 := by rw [List.length_append]; rfl
      have HDL := Lib.hid hDl
      clear ho hg hgl hgl' HL2 HL0 HN HT hDl
      go_wp2_with fail
      go_roundw
      case rel => exact ⟨D.length + 1, D ++ [(rowCl (f, e, kk, n, s), Value.slice A2 m cap2)], by omega, by go_num, HE, HT2, HDL.out⟩
      case measure => simp [intOf]; omega
    · have hkl : D.length = l.length := by omega
      have HM : Hid (D.map (·.1) = l.map rowCl) := by unfold Hid; rw [HD.out, hkl, List.take_length]
      obtain ⟨dd, hln⟩ := HL.out.own.lnf (Nat.succ_pos _)
      have HC := Lib.hid (L4.list18 (lo := w.heap.size + 1) (D.map (·.1)) _ dd wr hln (by rw [HM.out, cntL_const rowCl 4 cnt_row]; omega) HL.out.size (Nat.succ_pos _))
      have HB0 := Lib.hid HL.out.row
      have HSZ := Lib.hid HL.out.size
      have HBL := Lib.hid HL.out.old
      clear HD HL HL0 hln hkl
      go_wp2_with fail
      refine HC.out.mono ?_
      rintro _ w3 ⟨A3, n3, cap3, D3, rfl, hl3, hb3⟩
      have HP := Lib.hid ((hb3.block w.heap.size (by have := HSZ.out; omega)).trans HB0.out)
      have HSS := Lib.hid (L4.size_four 3 0 ⟨#[]⟩ A3 n3 cap3)
      have HALL := Lib.hid (L4.all_one 3 0 ⟨#[]⟩ A3 n3 cap3)
      have HE := Lib.hid (ListOf.row (cs := #[.int .i64 3, .int .i64 0, .string ⟨#[]⟩, .slice A3 n3 cap3]) (Nat.le_refl _) (HM.out ▸ hl3) (HBL.out.trans (hb3.mono HBL.out.size)))
      clear hl3 hb3 HB0 HBL HC HM
      go_wp2_with (refine wpList_store_row (P := Tryz.prog) rfl 38 _ _ rfl w.heap.size #[.int .i64 3, .int .i64 0, .string ⟨#[]⟩, .slice A3 n3 cap3] rfl rfl 38 _ HP.out HSS.out rfl HALL.out ?_)
      refine bodyPost_ret (results_cell_row (p := 4) (ty := 38) rfl _ _ w.heap.size 38 #[.int .i64 3, .int .i64 0, .string ⟨#[]⟩, .slice A3 n3 cap3] (0, 0) _ ?hp (setRow_heap _ w.heap.size _ _ 38 (0, 0) HP.out) Tryz.underlying38 rfl (by exact HSS.out)) rfl ?_
      case hp => simp [Act.put]
      exact HE.out
end Go.Proofs.YtjanddnlhaionaaGreatDoor
