/-
  The contract of rowCell, at a row of a text; rowCell. No condition but that numbers are ints.
-/
import Derived.Test.YtjanddnlhaionaaGreatDoorOG
namespace Go.Proofs.YtjanddnlhaionaaGreatDoor
open Go.RowKit
open L4 (C LIn LNF Unf Wf rcells)
open L2 (Row Vl RowsAt rowsOK valOK)

set_option maxRecDepth 100000 in
set_option maxHeartbeats 2000000 in
theorem rowCell27_text (f e k n : Int) (s : ByteArray) (w : World) (h0 : -9223372036854775808 ≤ f) (h1 : f ≤ 9223372036854775807) (h2 : -9223372036854775808 ≤ e) (h3 : e ≤ 9223372036854775807) (h4 : s.size ≤ 9223372036854775807) (hk : (k == 2) = true) :
    Calls Tryz.prog 54 #[.agg #[.int .i64 f, .int .i64 e, .int .i64 k, .int .i64 n, .string s]] w (ListOf w [numC f, numC e, textC s]) := by
  have HS := Lib.hid (RS.start w f e k n s)
  unfold RowStart at HS
  have HBU : Hid (∀ (W : World) (lo : Nat), lo ≤ W.heap.size → _) := fun W lo hW => row_built f e 2 0 s W lo hW h0 h1 h2 h3 (wf_text h4)
  have HCN : Hid (L4.cntL [numC f, numC e, .mk 2 0 s []] ≤ 5000) := by unfold Hid; simp [L4.cntL_cons, L4.cntL_nil, numC, L4.cntC_mk]
  clear h0 h1 h2 h3 h4
  go_enter Tryz.func54, Tryz.ntmps54
  go_wp2_with fail
  refine (L4.num16 _ _).mono ?_
  rintro _ w1 ⟨rfl, hb1⟩
  have HS1 := Lib.hid (HS.out.step hb1)
  obtain ⟨c0, c1, c2, c3, c4, -, -, -⟩ := HS1.out
  have ha : Below w1.heap.size w1 (w1.alloc (.cells #[.int .i64 1, .int .i64 n, .string ⟨#[]⟩, .slice none 0 0] 38)) := (Below.refl _ w1).alloc (Nat.le_refl _) _
  obtain ⟨d0, d1, d2, d3, d4, -, -, -⟩ := HS1.out.step ha
  have HA := Lib.hid ha
  clear HS hb1 ha
  go_wp2_with fail
  refine (L4.text17 _ _).mono ?_
  rintro _ w2 ⟨rfl, hb2⟩
  have hT : w2.heap[w1.heap.size]? = some (.cells #[.int .i64 1, .int .i64 n, .string ⟨#[]⟩, .slice none 0 0] 38 (0, 0)) := (hb2.block _ (by simp)).trans (heap_alloc_new w1 _)
  have hz : w1.heap.size < w2.heap.size := by have := hb2.size; simp at this; omega
  have hbW : Below w1.heap.size w1 (w2.setRow w1.heap.size #[.int .i64 2, .int .i64 0, .string s, .slice none 0 0]) := (HA.out.trans (hb2.mono (by simp))).trans ⟨rfl, rfl, rfl, by rw [setRow_size]; exact Nat.le_refl _, fun i hi => setRow_other _ _ _ _ (by omega)⟩
  have HRB := Lib.hid (RS.rb HS1.out hbW (by rw [setRow_size]; exact hz) (setRow_heap w2 w1.heap.size _ _ 38 (0, 0) hT))
  have HTT := Lib.hid hT
  have HS4 := Lib.hid (L4.size_four 2 0 s none 0 0)
  have HA4 := Lib.hid (L4.all_one 2 0 s none 0 0)
  clear hb2 hT hz hbW HA c0 c1 c2 c3 c4 d0 d1 d2 d3 d4
  go_wp2_with (refine wpList_store_row (P := Tryz.prog) rfl 38 _ _ rfl w1.heap.size #[.int .i64 2, .int .i64 0, .string s, .slice none 0 0] rfl rfl 38 _ HTT.out HS4.out rfl HA4.out ?_)
  go_region_held3 (fun W => W.cell? ⟨w.heap.size, 0, none⟩ = some (.int .i64 f) ∧ W.cell? ⟨w.heap.size, 1, none⟩ = some (.int .i64 e) ∧ W.cell? ⟨w1.heap.size, 0, none⟩ = some (.int .i64 2) ∧ W.cell? ⟨w1.heap.size, 1, none⟩ = some (.int .i64 0) ∧ W.cell? ⟨w1.heap.size, 2, none⟩ = some (.string s) ∧ W.cell? ⟨w1.heap.size, 3, none⟩ = some (.slice none 0 0) ∧ RB w f e w1.heap.size 2 0 s W)
    ((apply RB.s; first | exact HRB.out.drew | exact RB.put (by go_split_ands; assumption) _ _ _ _ | exact RB.step (by go_split_ands; assumption) (by assumption) | exact RB.step (by go_split_ands; assumption) ((Below.refl _ _).alloc (Nat.le_refl _) _))) (first | (go_at_call 88; refine (L4.num16 _ _).mono ?_; rintro _ w2 ⟨rfl, hb⟩; have hz2 := Lib.hid (RB.lt (RB.step (by go_split_ands; assumption) hb))) | (go_at_call 89; refine (L4.list18 (lo := w.heap.size + 2) _ _ 2 _ (HBU.out _ _ (Hid.out (by assumption))) HCN.out (Nat.le_trans (RB.lt (by go_split_ands; assumption)) (by simp))).mono ?_; rintro _ w4 ⟨A, m, cap, D, rfl, hl, hb⟩; have HL := Lib.hid hl; clear hl; obtain ⟨a, b, c, d, hr⟩ := RB.res (RB.step (by go_split_ands; assumption) hb); obtain ⟨z0, z1, z2, z3, z4, z5, z6, z7⟩ := row_facts hr; have HR := Lib.hid hr; have HKB := Lib.hid (RB.step (by go_split_ands; assumption) hb); clear hr))
  have HSS := Lib.hid (L4.size_four 3 0 ⟨#[]⟩ A m cap)
  go_wp2
  refine bodyPost_ret (results_cell_row (p := 2) (ty := 38) rfl _ _ (w.heap.size + 1) 38 #[.int .i64 3, .int .i64 0, .string ⟨#[]⟩, .slice A m cap] (0, 0) _ ?hp (set4 _ _ _ _ _ _ _ _ _ _ HR.out) Tryz.underlying38 rfl (by exact HSS.out)) rfl ?_
  case hp => rfl
  exact ListOf.put (by omega) HL.out HKB.out.below

set_option maxRecDepth 100000 in
theorem rowCell27 (f e k n : Int) (s : ByteArray) (w : World) (h0 : -9223372036854775808 ≤ f) (h1 : f ≤ 9223372036854775807) (h2 : -9223372036854775808 ≤ e) (h3 : e ≤ 9223372036854775807) (h4 : -9223372036854775808 ≤ n) (h5 : n ≤ 9223372036854775807) (h6 : s.size ≤ 9223372036854775807) :
    Calls Tryz.prog 54 #[.agg #[.int .i64 f, .int .i64 e, .int .i64 k, .int .i64 n, .string s]] w (ListOf w [numC f, numC e, vC (k, n, s)]) := by
  cases hk : (k == 2) with
  | true =>
    have : vC (k, n, s) = textC s := by unfold vC; rw [if_pos (by simpa using hk)]
    rw [this]
    exact rowCell27_text f e k n s w h0 h1 h2 h3 h6 hk
  | false =>
    have : vC (k, n, s) = numC n := by unfold vC; rw [if_neg (by simpa using hk)]
    rw [this]
    exact rowCell27_num f e k n s w h0 h1 h2 h3 h4 h5 hk
end Go.Proofs.YtjanddnlhaionaaGreatDoor
