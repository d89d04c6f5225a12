/-
  The contracts of kidCell and rowCell. No condition but that numbers are ints.
-/
import Derived.Test.YtjanddnlhaionaaGreatDoorOF
namespace Go.Proofs.YtjanddnlhaionaaGreatDoor
open Go.RowKit
open L4 (C LIn LNF Unf Wf rcells)
open L2 (Row Vl RowsAt rowsOK valOK)

set_option maxRecDepth 100000 in
theorem wf_num {n : Int} (h0 : -9223372036854775808 ≤ n) (h1 : n ≤ 9223372036854775807) : Wf (numC n) :=
  ⟨by show (-9223372036854775808 : Int) ≤ 1; omega, by show (1 : Int) ≤ _; omega, h0, h1, by show (0 : Nat) ≤ _; omega⟩
set_option maxRecDepth 100000 in
theorem wf_text {s : ByteArray} (h : s.size ≤ 9223372036854775807) : Wf (textC s) :=
  ⟨by show (-9223372036854775808 : Int) ≤ 2; omega, by show (2 : Int) ≤ _; omega, by show (-9223372036854775808 : Int) ≤ 0; omega, by show (0 : Int) ≤ _; omega, h⟩

set_option maxRecDepth 100000 in
theorem row_facts {W : World} {B : Nat} {a b c d : Value} (h : W.heap[B]? = some (.cells #[a, b, c, d] 38 (0, 0))) :
    W.cell? ⟨B, 0, none⟩ = some a ∧ W.cell? ⟨B, 1, none⟩ = some b ∧ W.cell? ⟨B, 2, none⟩ = some c ∧ W.cell? ⟨B, 3, none⟩ = some d ∧
      W.frozen? ⟨B, 0, none⟩ = false ∧ W.frozen? ⟨B, 1, none⟩ = false ∧ W.frozen? ⟨B, 2, none⟩ = false ∧ W.frozen? ⟨B, 3, none⟩ = false :=
  ⟨cell_of_row W B 0 _ 38 (0, 0) h, cell_of_row W B 1 _ 38 (0, 0) h, cell_of_row W B 2 _ 38 (0, 0) h, cell_of_row W B 3 _ 38 (0, 0) h, by simp [World.frozen?, h], by simp [World.frozen?, h], by simp [World.frozen?, h], by simp [World.frozen?, h]⟩

/-- What lies while kidCell's list is built: the kid, the place of the result, and what lay. -/
structure KB (w : World) (f : Int) (id : ByteArray) (W : World) : Prop where
  c0 : W.cell? ⟨w.heap.size, 0, none⟩ = some (.int .u8 f)
  c1 : W.cell? ⟨w.heap.size, 1, none⟩ = some (.string id)
  below : Below w.heap.size w W
  lt : w.heap.size + 2 ≤ W.heap.size
  res : ∃ a b c d, W.heap[w.heap.size + 1]? = some (.cells #[a, b, c, d] 38 (0, 0))
set_option maxRecDepth 100000 in
theorem KB.start (w : World) (f : Int) (id : ByteArray) (a b c d : Value) : KB w f id ((w.alloc (.cells #[.int .u8 f, .string id] 95)).alloc (.cells #[a, b, c, d] 38)) :=
  ⟨by simp [go_sem], by simp [go_sem], ((Below.refl _ w).alloc (Nat.le_refl _) _).alloc (by simp) _, by simp, a, b, c, d, by have := heap_alloc_new (w.alloc (.cells #[.int .u8 f, .string id] 95)) (.cells #[a, b, c, d] 38); simpa using this⟩
set_option maxRecDepth 100000 in
theorem KB.drew {w : World} {f : Int} {id : ByteArray} {W : World} (h : KB w f id W) : KB w f id W.drew := ⟨h.c0, h.c1, h.below.drew, h.lt, h.res⟩
set_option maxRecDepth 100000 in
theorem KB.step {w : World} {f : Int} {id : ByteArray} {W W' : World} (h : KB w f id W) (hb : Below W.heap.size W W') : KB w f id W' := by
  have hl := h.lt
  obtain ⟨a, b, c, d, hr⟩ := h.res
  exact ⟨(hb.cell (p := ⟨w.heap.size, 0, none⟩) (show w.heap.size < _ by omega)).trans h.c0, (hb.cell (p := ⟨w.heap.size, 1, none⟩) (show w.heap.size < _ by omega)).trans h.c1, h.below.trans (hb.mono (by omega)), Nat.le_trans h.lt hb.size, a, b, c, d, (hb.block _ (by omega)).trans hr⟩
set_option maxRecDepth 100000 in
theorem KB.put {w : World} {f : Int} {id : ByteArray} {W : World} (h : KB w f id W) (v0 v1 v2 v3 : Value) : KB w f id ((((W.setCell ⟨w.heap.size + 1, 0, none⟩ v0).setCell ⟨w.heap.size + 1, 1, none⟩ v1).setCell ⟨w.heap.size + 1, 2, none⟩ v2).setCell ⟨w.heap.size + 1, 3, none⟩ v3) := by
  obtain ⟨a, b, c, d, hr⟩ := h.res
  refine ⟨(L4.cell_same (set4_other _ _ _ _ _ _ _ (by omega)) 0).trans h.c0, (L4.cell_same (set4_other _ _ _ _ _ _ _ (by omega)) 1).trans h.c1, h.below.trans ⟨rfl, rfl, rfl, by rw [set4_size]; exact Nat.le_refl _, fun k hk => set4_other _ _ _ _ _ _ _ (by omega)⟩, by rw [set4_size]; exact h.lt, v0, v1, v2, v3, set4 _ _ _ _ _ _ _ _ _ _ hr⟩
set_option maxRecDepth 100000 in
theorem KB.s {w : World} {f : Int} {id : ByteArray} {W : World} (h : KB w f id W) : W.cell? ⟨w.heap.size, 0, none⟩ = some (.int .u8 f) ∧ W.cell? ⟨w.heap.size, 1, none⟩ = some (.string id) ∧ KB w f id W := ⟨h.c0, h.c1, h⟩

set_option maxRecDepth 100000 in
set_option maxHeartbeats 2000000 in
theorem kidCell37 (f : Int) (id : ByteArray) (w : World) (h0 : 0 ≤ f) (h1 : f ≤ 255) (h2 : id.size ≤ 9223372036854775807) :
    Calls Tryz.prog 92 #[.agg #[.int .u8 f, .string id]] w (ListOf w [numC f, textC id]) := by
  have HK := Lib.hid (KB.start w f id (.int .i64 0) (.int .i64 0) (.string ⟨#[]⟩) (.slice none 0 0))
  have HBU : Hid (∀ W : World, w.heap.size + 2 ≤ W.heap.size → LNF (w.heap.size + 2) (W.alloc (.cells #[.int .i64 1, .int .i64 f, .string ⟨#[]⟩, .slice none 0 0, .int .i64 2, .int .i64 0, .string id, .slice none 0 0] 38)) (W.alloc (.cells #[.int .i64 1, .int .i64 f, .string ⟨#[]⟩, .slice none 0 0, .int .i64 2, .int .i64 0, .string id, .slice none 0 0] 38)).heap.size 2 (.slice (some ⟨W.heap.size, 0, none⟩) 2 2) [numC f, textC id]) := fun W hW =>
    lnf_built hW [(numC f, .slice none 0 0), (textC id, .slice none 0 0)] 1 (fun x hx => by
      simp only [List.mem_cons, List.not_mem_nil, or_false] at hx
      rcases hx with rfl | rfl
      · exact ⟨wf_num (by omega) (by omega), lnf_nil _ _ _ _⟩
      · exact ⟨wf_text h2, lnf_nil _ _ _ _⟩) (by simp)
  have HCN : Hid (L4.cntL [numC f, textC id] ≤ 5000) := by unfold Hid; simp [L4.cntL_cons, L4.cntL_nil, numC, textC, L4.cntC_mk]
  have hw : IntKind.i64.wrap f = f := IntWalk.i64_in _ (by omega)
  clear h0 h1 h2
  go_enter Tryz.func92, Tryz.ntmps92
  go_wp2_with fail
  go_region_held3 (fun W => W.cell? ⟨w.heap.size, 0, none⟩ = some (.int .u8 f) ∧ W.cell? ⟨w.heap.size, 1, none⟩ = some (.string id) ∧ KB w f id W)
    ((apply KB.s; first | exact HK.out.drew | exact KB.put (by go_split_ands; assumption) _ _ _ _ | exact KB.step (by go_split_ands; assumption) (by assumption) | exact KB.step (by go_split_ands; assumption) ((Below.refl _ _).alloc (Nat.le_refl _) _))) (first | (go_at_call 88; refine (L4.num16 _ _).mono ?_; rintro e w2 ⟨rfl, hb⟩) | (go_at_call 90; refine (L4.text17 _ _).mono ?_; rintro e w2 ⟨rfl, hb⟩; have hz2 := Lib.hid (KB.lt (KB.step (by go_split_ands; assumption) hb))) | (go_at_call 89; refine (L4.list18 (lo := w.heap.size + 2) _ _ 2 _ (HBU.out _ (Hid.out (by assumption))) HCN.out (Nat.le_trans (KB.lt (by go_split_ands; assumption)) (by simp))).mono ?_; rintro e w4 ⟨A, n, cap, D, rfl, hl, hb⟩; have HL := Lib.hid hl; clear hl; obtain ⟨a, b, c, d, hr⟩ := KB.res (KB.step (by go_split_ands; assumption) hb); obtain ⟨z0, z1, z2, z3, z4, z5, z6, z7⟩ := row_facts hr; have HR := Lib.hid hr; have HKB := Lib.hid (KB.step (by go_split_ands; assumption) hb); clear hr))
  have HSS := Lib.hid (L4.size_four 3 0 ⟨#[]⟩ A n cap)
  go_wp2
  refine bodyPost_ret (results_cell_row (p := 2) (ty := 38) rfl _ _ (w.heap.size + 1) 38 #[.int .i64 3, .int .i64 0, .string ⟨#[]⟩, .slice A n cap] (0, 0) _ ?hp (set4 _ _ _ _ _ _ _ _ _ _ HR.out) Tryz.underlying38 rfl (by exact HSS.out)) rfl ?_
  case hp => rfl
  exact ListOf.put (by omega) HL.out HKB.out.below

/-- What lies while rowCell's list is built. -/
structure RB (w : World) (f e : Int) (T : Nat) (vk vn : Int) (vs : ByteArray) (W : World) : Prop where
  c0 : W.cell? ⟨w.heap.size, 0, none⟩ = some (.int .i64 f)
  c1 : W.cell? ⟨w.heap.size, 1, none⟩ = some (.int .i64 e)
  t0 : W.cell? ⟨T, 0, none⟩ = some (.int .i64 vk)
  t1 : W.cell? ⟨T, 1, none⟩ = some (.int .i64 vn)
  t2 : W.cell? ⟨T, 2, none⟩ = some (.string vs)
  t3 : W.cell? ⟨T, 3, none⟩ = some (.slice none 0 0)
  below : Below w.heap.size w W
  lt : w.heap.size + 2 ≤ W.heap.size
  tl : w.heap.size + 1 < T
  th : T < W.heap.size
  res : ∃ a b c d, W.heap[w.heap.size + 1]? = some (.cells #[a, b, c, d] 38 (0, 0))
set_option maxRecDepth 100000 in
theorem RB.step {w : World} {f e : Int} {T : Nat} {vk vn : Int} {vs : ByteArray} {W W' : World} (h : RB w f e T vk vn vs W) (hb : Below W.heap.size W W') : RB w f e T vk vn vs W' := by
  have hl := h.lt
  have ht := h.th
  have ht' := h.tl
  obtain ⟨a, b, c, d, hr⟩ := h.res
  exact ⟨(hb.cell (p := ⟨w.heap.size, 0, none⟩) (show w.heap.size < _ by omega)).trans h.c0, (hb.cell (p := ⟨w.heap.size, 1, none⟩) (show w.heap.size < _ by omega)).trans h.c1, (hb.cell (p := ⟨T, 0, none⟩) ht).trans h.t0, (hb.cell (p := ⟨T, 1, none⟩) ht).trans h.t1, (hb.cell (p := ⟨T, 2, none⟩) ht).trans h.t2, (hb.cell (p := ⟨T, 3, none⟩) ht).trans h.t3, h.below.trans (hb.mono (by omega)), Nat.le_trans h.lt hb.size, ht', Nat.lt_of_lt_of_le ht hb.size, a, b, c, d, (hb.block _ (by omega)).trans hr⟩
set_option maxRecDepth 100000 in
theorem RB.drew {w : World} {f e : Int} {T : Nat} {vk vn : Int} {vs : ByteArray} {W : World} (h : RB w f e T vk vn vs W) : RB w f e T vk vn vs W.drew := ⟨h.c0, h.c1, h.t0, h.t1, h.t2, h.t3, h.below.drew, h.lt, h.tl, h.th, h.res⟩
set_option maxRecDepth 100000 in
theorem RB.put {w : World} {f e : Int} {T : Nat} {vk vn : Int} {vs : ByteArray} {W : World} (h : RB w f e T vk vn vs W) (v0 v1 v2 v3 : Value) : RB w f e T vk vn vs ((((W.setCell ⟨w.heap.size + 1, 0, none⟩ v0).setCell ⟨w.heap.size + 1, 1, none⟩ v1).setCell ⟨w.heap.size + 1, 2, none⟩ v2).setCell ⟨w.heap.size + 1, 3, none⟩ v3) := by
  obtain ⟨a, b, c, d, hr⟩ := h.res
  have ht' := h.tl
  exact ⟨(L4.cell_same (set4_other _ _ _ _ _ _ _ (by omega)) 0).trans h.c0, (L4.cell_same (set4_other _ _ _ _ _ _ _ (by omega)) 1).trans h.c1, (L4.cell_same (set4_other _ _ _ _ _ _ _ (by omega)) 0).trans h.t0, (L4.cell_same (set4_other _ _ _ _ _ _ _ (by omega)) 1).trans h.t1, (L4.cell_same (set4_other _ _ _ _ _ _ _ (by omega)) 2).trans h.t2, (L4.cell_same (set4_other _ _ _ _ _ _ _ (by omega)) 3).trans h.t3,
    h.below.trans ⟨rfl, rfl, rfl, by rw [set4_size]; exact Nat.le_refl _, fun k hk => set4_other _ _ _ _ _ _ _ (by omega)⟩, by rw [set4_size]; exact h.lt, ht', by rw [set4_size]; exact h.th, v0, v1, v2, v3, set4 _ _ _ _ _ _ _ _ _ _ hr⟩
set_option maxRecDepth 100000 in
theorem RB.s {w : World} {f e : Int} {T : Nat} {vk vn : Int} {vs : ByteArray} {W : World} (h : RB w f e T vk vn vs W) :
    W.cell? ⟨w.heap.size, 0, none⟩ = some (.int .i64 f) ∧ W.cell? ⟨w.heap.size, 1, none⟩ = some (.int .i64 e) ∧ W.cell? ⟨T, 0, none⟩ = some (.int .i64 vk) ∧ W.cell? ⟨T, 1, none⟩ = some (.int .i64 vn) ∧ W.cell? ⟨T, 2, none⟩ = some (.string vs) ∧ W.cell? ⟨T, 3, none⟩ = some (.slice none 0 0) ∧ RB w f e T vk vn vs W := ⟨h.c0, h.c1, h.t0, h.t1, h.t2, h.t3, h⟩

set_option maxRecDepth 100000 in
theorem row_built (f e vk vn : Int) (vs : ByteArray) (W : World) (lo : Nat) (hlo : lo ≤ W.heap.size) (h0 : -9223372036854775808 ≤ f) (h1 : f ≤ 9223372036854775807) (h2 : -9223372036854775808 ≤ e) (h3 : e ≤ 9223372036854775807) (hw : Wf (.mk vk vn vs [])) :
    LNF lo (W.alloc (.cells #[.int .i64 1, .int .i64 f, .string ⟨#[]⟩, .slice none 0 0, .int .i64 1, .int .i64 e, .string ⟨#[]⟩, .slice none 0 0, .int .i64 vk, .int .i64 vn, .string vs, .slice none 0 0] 38)) (W.alloc (.cells #[.int .i64 1, .int .i64 f, .string ⟨#[]⟩, .slice none 0 0, .int .i64 1, .int .i64 e, .string ⟨#[]⟩, .slice none 0 0, .int .i64 vk, .int .i64 vn, .string vs, .slice none 0 0] 38)).heap.size 2 (.slice (some ⟨W.heap.size, 0, none⟩) 3 3) [numC f, numC e, .mk vk vn vs []] :=
  lnf_built hlo [(numC f, .slice none 0 0), (numC e, .slice none 0 0), (.mk vk vn vs [], .slice none 0 0)] 1 (fun x hx => by
    simp only [List.mem_cons, List.not_mem_nil, or_false] at hx
    rcases hx with rfl | rfl | rfl
    · exact ⟨wf_num h0 h1, lnf_nil _ _ _ _⟩
    · exact ⟨wf_num h2 h3, lnf_nil _ _ _ _⟩
    · exact ⟨hw, lnf_nil _ _ _ _⟩) (by simp)

/-- The world ahead of rowCell's last statement. -/
def RowStart (w : World) (f e k n : Int) (s : ByteArray) : World := (w.alloc (.cells #[.int .i64 f, .int .i64 e, .int .i64 k, .int .i64 n, .string s] 93)).alloc (.cells #[.int .i64 0, .int .i64 0, .string ⟨#[]⟩, .slice none 0 0] 38)
structure RS (w : World) (f e k n : Int) (s : ByteArray) (W : World) : Prop where
  c0 : W.cell? ⟨w.heap.size, 0, none⟩ = some (.int .i64 f)
  c1 : W.cell? ⟨w.heap.size, 1, none⟩ = some (.int .i64 e)
  c2 : W.cell? ⟨w.heap.size, 2, none⟩ = some (.int .i64 k)
  c3 : W.cell? ⟨w.heap.size, 3, none⟩ = some (.int .i64 n)
  c4 : W.cell? ⟨w.heap.size, 4, none⟩ = some (.string s)
  below : Below w.heap.size w W
  lt : w.heap.size + 2 ≤ W.heap.size
  res : ∃ a b c d, W.heap[w.heap.size + 1]? = some (.cells #[a, b, c, d] 38 (0, 0))
set_option maxRecDepth 100000 in
theorem RS.start (w : World) (f e k n : Int) (s : ByteArray) : RS w f e k n s (RowStart w f e k n s) :=
  ⟨by simp [RowStart, go_sem], by simp [RowStart, go_sem], by simp [RowStart, go_sem], by simp [RowStart, go_sem], by simp [RowStart, go_sem], ((Below.refl _ w).alloc (Nat.le_refl _) _).alloc (by simp) _, by simp [RowStart], _, _, _, _, by have := heap_alloc_new (w.alloc (.cells #[.int .i64 f, .int .i64 e, .int .i64 k, .int .i64 n, .string s] 93)) (.cells #[.int .i64 0, .int .i64 0, .string ⟨#[]⟩, .slice none 0 0] 38); simpa [RowStart] using this⟩
set_option maxRecDepth 100000 in
theorem RS.step {w : World} {f e k n : Int} {s : ByteArray} {W W' : World} (h : RS w f e k n s W) (hb : Below W.heap.size W W') : RS w f e k n s W' := by
  have hl := h.lt
  obtain ⟨a, b, c, d, hr⟩ := h.res
  exact ⟨(hb.cell (p := ⟨w.heap.size, 0, none⟩) (show w.heap.size < _ by omega)).trans h.c0, (hb.cell (p := ⟨w.heap.size, 1, none⟩) (show w.heap.size < _ by omega)).trans h.c1, (hb.cell (p := ⟨w.heap.size, 2, none⟩) (show w.heap.size < _ by omega)).trans h.c2, (hb.cell (p := ⟨w.heap.size, 3, none⟩) (show w.heap.size < _ by omega)).trans h.c3, (hb.cell (p := ⟨w.heap.size, 4, none⟩) (show w.heap.size < _ by omega)).trans h.c4, h.below.trans (hb.mono (by omega)), Nat.le_trans h.lt hb.size, a, b, c, d, (hb.block _ (by omega)).trans hr⟩
set_option maxRecDepth 100000 in
theorem RS.rb {w : World} {f e k n : Int} {s : ByteArray} {W W' : World} (h : RS w f e k n s W) (hb : Below W.heap.size W W') {vk vn : Int} {vs : ByteArray} (hz : W.heap.size < W'.heap.size) (hv : W'.heap[W.heap.size]? = some (.cells #[.int .i64 vk, .int .i64 vn, .string vs, .slice none 0 0] 38 (0, 0))) : RB w f e W.heap.size vk vn vs W' := by
  have h' := h.step hb
  exact ⟨h'.c0, h'.c1, cell_of_row W' _ 0 _ 38 (0, 0) hv, cell_of_row W' _ 1 _ 38 (0, 0) hv, cell_of_row W' _ 2 _ 38 (0, 0) hv, cell_of_row W' _ 3 _ 38 (0, 0) hv, h'.below, h'.lt, by have := h.lt; omega, hz, h'.res⟩

set_option maxRecDepth 100000 in
set_option maxHeartbeats 2000000 in
theorem rowCell27_num (f e k n : Int) (s : ByteArray) (w : World) (h0 : -9223372036854775808 ≤ f) (h1 : f ≤ 9223372036854775807) (h2 : -9223372036854775808 ≤ e) (h3 : e ≤ 9223372036854775807) (h4 : -9223372036854775808 ≤ n) (h5 : n ≤ 9223372036854775807) (hk : (k == 2) = false) :
    Calls Tryz.prog 54 #[.agg #[.int .i64 f, .int .i64 e, .int .i64 k, .int .i64 n, .string s]] w (ListOf w [numC f, numC e, numC n]) := by
  have HS := Lib.hid (RS.start w f e k n s)
  unfold RowStart at HS
  have HBU : Hid (∀ (W : World) (lo : Nat), lo ≤ W.heap.size → _) := fun W lo hW => row_built f e 1 n ⟨#[]⟩ W lo hW h0 h1 h2 h3 (wf_num h4 h5)
  have HCN : Hid (L4.cntL [numC f, numC e, .mk 1 n ⟨#[]⟩ []] ≤ 5000) := by unfold Hid; simp [L4.cntL_cons, L4.cntL_nil, numC, L4.cntC_mk]
  clear h0 h1 h2 h3 h4 h5
  go_enter Tryz.func54, Tryz.ntmps54
  go_wp2_with fail
  refine (L4.num16 _ _).mono ?_
  rintro _ w1 ⟨rfl, hb1⟩
  have HS1 := Lib.hid (HS.out.step hb1)
  obtain ⟨c0, c1, c2, c3, c4, -, -, -⟩ := HS1.out
  have HRB := Lib.hid (RS.rb HS1.out ((Below.refl _ w1).alloc (Nat.le_refl _) (.cells #[.int .i64 1, .int .i64 n, .string ⟨#[]⟩, .slice none 0 0] 38)) (by simp) (heap_alloc_new _ _))
  obtain ⟨d0, d1, d2, d3, d4, -, -, -⟩ := HS1.out.step ((Below.refl _ w1).alloc (Nat.le_refl _) (.cells #[.int .i64 1, .int .i64 n, .string ⟨#[]⟩, .slice none 0 0] 38))
  clear HS hb1
  go_wp2_with fail
  clear c0 c1 c2 c3 c4 d0 d1 d2 d3 d4
  go_region_held3 (fun W => W.cell? ⟨w.heap.size, 0, none⟩ = some (.int .i64 f) ∧ W.cell? ⟨w.heap.size, 1, none⟩ = some (.int .i64 e) ∧ W.cell? ⟨w1.heap.size, 0, none⟩ = some (.int .i64 1) ∧ W.cell? ⟨w1.heap.size, 1, none⟩ = some (.int .i64 n) ∧ W.cell? ⟨w1.heap.size, 2, none⟩ = some (.string ⟨#[]⟩) ∧ W.cell? ⟨w1.heap.size, 3, none⟩ = some (.slice none 0 0) ∧ RB w f e w1.heap.size 1 n ⟨#[]⟩ W)
    ((apply RB.s; first | exact HRB.out.drew | exact RB.put (by go_split_ands; assumption) _ _ _ _ | exact RB.step (by go_split_ands; assumption) (by assumption) | exact RB.step (by go_split_ands; assumption) ((Below.refl _ _).alloc (Nat.le_refl _) _))) (first | (go_at_call 88; refine (L4.num16 _ _).mono ?_; rintro _ w2 ⟨rfl, hb⟩; have hz2 := Lib.hid (RB.lt (RB.step (by go_split_ands; assumption) hb))) | (go_at_call 89; refine (L4.list18 (lo := w.heap.size + 2) _ _ 2 _ (HBU.out _ _ (Hid.out (by assumption))) HCN.out (Nat.le_trans (RB.lt (by go_split_ands; assumption)) (by simp))).mono ?_; rintro _ w4 ⟨A, m, cap, D, rfl, hl, hb⟩; have HL := Lib.hid hl; clear hl; obtain ⟨a, b, c, d, hr⟩ := RB.res (RB.step (by go_split_ands; assumption) hb); obtain ⟨z0, z1, z2, z3, z4, z5, z6, z7⟩ := row_facts hr; have HR := Lib.hid hr; have HKB := Lib.hid (RB.step (by go_split_ands; assumption) hb); clear hr))
  have HSS := Lib.hid (L4.size_four 3 0 ⟨#[]⟩ A m cap)
  go_wp2
  refine bodyPost_ret (results_cell_row (p := 2) (ty := 38) rfl _ _ (w.heap.size + 1) 38 #[.int .i64 3, .int .i64 0, .string ⟨#[]⟩, .slice A m cap] (0, 0) _ ?hp (set4 _ _ _ _ _ _ _ _ _ _ HR.out) Tryz.underlying38 rfl (by exact HSS.out)) rfl ?_
  case hp => rfl
  exact ListOf.put (by omega) HL.out HKB.out.below
end Go.Proofs.YtjanddnlhaionaaGreatDoor
