/-
  Lists of cells in new memory; the contracts of rowCell and kidCell. No condition but that numbers are ints. The contracts of kidCell and rowCell. No condition but that numbers are ints. The contract of rowCell, at a row of a text; rowCell. No condition but that numbers are ints. A row of cells that grows, its lists in new memory: for listCell. No condition. The contracts of listCell: of rows, of kids, of strings. No condition but that numbers are ints and that there are at most 1000. The contracts of listCell: of kids, of strings. No condition but that there are at most 1000.
-/
import Derived.Test.YtjanddnlhaionaaGreatDoorOx0
set_option maxRecDepth 100000
namespace Go.Proofs.YtjanddnlhaionaaGreatDoor
open Go.RowKit
open L4 (C LIn LNF Unf Wf rcells)
open L2 (Row Vl RowsAt rowsOK valOK)

theorem lnf_lin {lo B : Nat} {w : World} : ∀ {d : Nat} {v : Value} {l : List C}, LNF lo w B d v l → LIn w (fun b => b < B ∧ Unf lo w b) d v l
  | 0, _, _, h => h
  | d + 1, v, l, h => by
    obtain ⟨A, cap, rfl, h1, h2, h3⟩ := h
    refine ⟨A, cap, rfl, h1, h2, fun hl => ?_⟩
    obtain ⟨b, o, rfl, hb, hr⟩ := h3 hl
    obtain ⟨_, _, _, z0, _⟩ := hr 0 hl
    refine ⟨b, o, rfl, ⟨hb, z0⟩, fun i hi => ?_⟩
    obtain ⟨u, r, f, _, _, s⟩ := hr i hi
    exact ⟨u, r, f, lnf_lin s⟩
theorem lnf_step {lo d : Nat} {w w' : World} {v : Value} {l : List C} (h : LNF lo w w.heap.size d v l) (hb : Below w.heap.size w w') : LNF lo w' w'.heap.size d v l := h.keep hb.size fun k hk => hb.block k hk
theorem lnf_lo {lo lo' B : Nat} {w : World} (hl : lo' ≤ lo) : ∀ {d : Nat} {v : Value} {l : List C}, LNF lo w B d v l → LNF lo' w B d v l
  | 0, _, _, h => h
  | d + 1, v, l, h => by
    obtain ⟨A, cap, rfl, h1, h2, h3⟩ := h
    refine ⟨A, cap, rfl, h1, h2, fun hz => ?_⟩
    obtain ⟨b, o, rfl, hb, hr⟩ := h3 hz
    refine ⟨b, o, rfl, hb, fun i hi => ?_⟩
    obtain ⟨u, r, f, ⟨z1, z2⟩, zf, s⟩ := hr i hi
    exact ⟨u, r, f, ⟨Nat.le_trans hl z1, fun h => z2 (by omega)⟩, zf, lnf_lo hl s⟩
theorem lnf_up {lo B : Nat} {w : World} : ∀ {d d' : Nat} {v : Value} {l : List C}, LNF lo w B d v l → d ≤ d' → LNF lo w B d' v l
  | 0, _, _, _, h, _ => h.elim
  | d + 1, 0, _, _, _, hd => by omega
  | d + 1, d' + 1, v, l, h, hd => by
    obtain ⟨A, cap, rfl, h1, h2, h3⟩ := h
    refine ⟨A, cap, rfl, h1, h2, fun hz => ?_⟩
    obtain ⟨b, o, rfl, hb, hr⟩ := h3 hz
    refine ⟨b, o, rfl, hb, fun i hi => ?_⟩
    obtain ⟨u, r, f, z, zf, s⟩ := hr i hi
    exact ⟨u, r, f, z, zf, lnf_up s (by omega)⟩
theorem lnf_nil (lo : Nat) (w : World) (B d : Nat) : LNF lo w B (d + 1) (.slice none 0 0) [] := ⟨none, 0, rfl, Nat.le_refl _, Nat.zero_le _, fun h => by simp at h⟩

/-- A row of cells just built, whose lists are new. -/
theorem lnf_built {lo : Nat} {w : World} (hlo : lo ≤ w.heap.size) (D : List (C × Value)) (d : Nat) (hD : ∀ x ∈ D, Wf x.1 ∧ LNF lo w w.heap.size d x.2 x.1.l) (hm : D.length ≤ 1000) :
    LNF lo (w.alloc (.cells (rcells D).toArray 38)) (w.alloc (.cells (rcells D).toArray 38)).heap.size (d + 1) (.slice (some ⟨w.heap.size, 0, none⟩) D.length D.length) (D.map (·.1)) := by
  have hg := heap_alloc_new w (.cells (rcells D).toArray 38)
  have hb : Below w.heap.size w (w.alloc (.cells (rcells D).toArray 38)) := (Below.refl _ w).alloc (Nat.le_refl _) _
  have hs : w.heap.size < (w.alloc (.cells (rcells D).toArray 38)).heap.size := by simp
  generalize w.alloc (.cells (rcells D).toArray 38) = w' at hg hb hs
  refine ⟨_, D.length, by rw [List.length_map], by rw [List.length_map]; exact Nat.le_refl _, by unfold maxLen; omega, fun _ => ⟨w.heap.size, 0, rfl, hs, fun i hi => ?_⟩⟩
  rw [List.length_map] at hi
  have hc : ∀ j, j < 4 → w'.cell? ⟨w.heap.size, 0 + i * 4 + j, none⟩ = (L4.rowC D[i])[j]? := fun j hj => by
    rw [Nat.zero_add, cell_of_row w' _ (i * 4 + j) _ 38 (0, 0) hg, ← L4.rcells_get D i j hi hj, List.getElem?_toArray]
  obtain ⟨h1, h2⟩ := hD D[i] (List.getElem_mem hi)
  refine ⟨D[i].2, ?_, by simpa using h1, ⟨hlo, fun _ => ⟨_, _, hg⟩⟩, by simp [World.frozen?, hg], ?_⟩
  · simp only [List.getElem_map]
    exact ⟨hc 0 (by omega), hc 1 (by omega), hc 2 (by omega), hc 3 (by omega)⟩
  · simp only [List.getElem_map]
    exact lnf_step h2 hb

/-- The value of a list's cell. -/
def listV (u : Value) : Value := .agg #[.int .i64 3, .int .i64 0, .string ⟨#[]⟩, u]
/-- What a function that builds the cell of a list comes to. -/
def ListOf (w : World) (l : List C) (e : Ending) (w' : World) : Prop :=
  ∃ A n cap D, e = .returned (.agg #[.int .i64 3, .int .i64 0, .string ⟨#[]⟩, .slice A n cap]) ∧ LNF w.heap.size w' w'.heap.size D (.slice A n cap) l ∧ Below w.heap.size w w'

theorem set4 (w : World) (B : Nat) (a b c d v0 v1 v2 v3 : Value) (h : w.heap[B]? = some (.cells #[a, b, c, d] 38 (0, 0))) :
    ((((w.setCell ⟨B, 0, none⟩ v0).setCell ⟨B, 1, none⟩ v1).setCell ⟨B, 2, none⟩ v2).setCell ⟨B, 3, none⟩ v3).heap[B]? = some (.cells #[v0, v1, v2, v3] 38 (0, 0)) :=
  heap_setCell_same _ B 3 _ 38 v3 (heap_setCell_same _ B 2 _ 38 v2 (heap_setCell_same _ B 1 _ 38 v1 (heap_setCell_same _ B 0 _ 38 v0 h)))
theorem set4_other (w : World) (B k : Nat) (v0 v1 v2 v3 : Value) (h : k ≠ B) :
    ((((w.setCell ⟨B, 0, none⟩ v0).setCell ⟨B, 1, none⟩ v1).setCell ⟨B, 2, none⟩ v2).setCell ⟨B, 3, none⟩ v3).heap[k]? = w.heap[k]? := by
  rw [Below.heap_setCell _ ⟨B, 3, none⟩ v3 k h, Below.heap_setCell _ ⟨B, 2, none⟩ v2 k h, Below.heap_setCell _ ⟨B, 1, none⟩ v1 k h, Below.heap_setCell _ ⟨B, 0, none⟩ v0 k h]
theorem set4_size (w : World) (B : Nat) (v0 v1 v2 v3 : Value) : ((((w.setCell ⟨B, 0, none⟩ v0).setCell ⟨B, 1, none⟩ v1).setCell ⟨B, 2, none⟩ v2).setCell ⟨B, 3, none⟩ v3).heap.size = w.heap.size := by simp
/-- A list's cell laid into the result's place. -/
theorem ListOf.put {w w3 : World} {l : List C} {B : Nat} {A : Option Addr} {n cap D : Nat} {v0 v1 v2 v3 : Value} (hB : w.heap.size ≤ B) (hl : LNF (B + 1) w3 w3.heap.size D (.slice A n cap) l) (hb : Below w.heap.size w w3) :
    ListOf w l (.returned (.agg #[.int .i64 3, .int .i64 0, .string ⟨#[]⟩, .slice A n cap])) ((((w3.setCell ⟨B, 0, none⟩ v0).setCell ⟨B, 1, none⟩ v1).setCell ⟨B, 2, none⟩ v2).setCell ⟨B, 3, none⟩ v3) := by
  refine ⟨A, n, cap, D, rfl, ?_, hb.trans ⟨rfl, rfl, rfl, by rw [set4_size]; exact Nat.le_refl _, fun k hk => set4_other _ _ _ _ _ _ _ (by omega)⟩⟩
  rw [set4_size]
  have h2 := lnf_lin hl
  refine LIn.lnf (S := fun b => b < w3.heap.size ∧ Unf (B + 1) w3 b) (fun b hb' => ⟨hb'.1, ?_⟩) (h2.keep (fun b h => h) fun b o hb' => L4.cell_same (set4_other _ _ _ _ _ _ _ ?_) o)
  · obtain ⟨-, h3, h4'⟩ := hb'
    obtain ⟨cs, t, h4⟩ := h4' (Nat.succ_pos _)
    have h5 := (set4_other w3 B b v0 v1 v2 v3 (by omega)).trans h4
    exact ⟨⟨by omega, fun _ => ⟨cs, t, h5⟩⟩, fun o => by simp only [World.frozen?, h5]; simp⟩
  · have := hb'.2.1; omega
end Go.Proofs.YtjanddnlhaionaaGreatDoor
namespace Go.Proofs.YtjanddnlhaionaaGreatDoor
open Go.RowKit
open L4 (C LIn LNF Unf Wf rcells)
open L2 (Row Vl RowsAt rowsOK valOK)

theorem wf_num {n : Int} (h0 : -9223372036854775808 ≤ n) (h1 : n ≤ 9223372036854775807) : Wf (numC n) :=
  ⟨by show (-9223372036854775808 : Int) ≤ 1; omega, by show (1 : Int) ≤ _; omega, h0, h1, by show (0 : Nat) ≤ _; omega⟩
theorem wf_text {s : ByteArray} (h : s.size ≤ 9223372036854775807) : Wf (textC s) :=
  ⟨by show (-9223372036854775808 : Int) ≤ 2; omega, by show (2 : Int) ≤ _; omega, by show (-9223372036854775808 : Int) ≤ 0; omega, by show (0 : Int) ≤ _; omega, h⟩

theorem row_facts {W : World} {B : Nat} {a b c d : Value} (h : W.heap[B]? = some (.cells #[a, b, c, d] 38 (0, 0))) :
    W.cell? ⟨B, 0, none⟩ = some a ∧ W.cell? ⟨B, 1, none⟩ = some b ∧ W.cell? ⟨B, 2, none⟩ = some c ∧ W.cell? ⟨B, 3, none⟩ = some d ∧
      W.frozen? ⟨B, 0, none⟩ = false ∧ W.frozen? ⟨B, 1, none⟩ = false ∧ W.frozen? ⟨B, 2, none⟩ = false ∧ W.frozen? ⟨B, 3, none⟩ = false :=
  ⟨cell_of_row W B 0 _ 38 (0, 0) h, cell_of_row W B 1 _ 38 (0, 0) h, cell_of_row W B 2 _ 38 (0, 0) h, cell_of_row W B 3 _ 38 (0, 0) h, by simp [World.frozen?, h], by simp [World.frozen?, h], by simp [World.frozen?, h], by simp [World.frozen?, h]⟩

/-- What lies while kidCell's list is built: the kid, the place of the result, and what lay. -/
structure KB (w : World) (f : Int) (id : ByteArray) (W : World) : Prop where
  c0 : W.cell? ⟨w.heap.size, 0, none⟩ = some (.int .u8 f)
  c1 : W.cell? ⟨w.heap.size, 1, none⟩ = some (.string id)
  below : Below w.heap.size w W
  lt : w.heap.size + 2 ≤ W.heap.size
  res : ∃ a b c d, W.heap[w.heap.size + 1]? = some (.cells #[a, b, c, d] 38 (0, 0))
theorem KB.start (w : World) (f : Int) (id : ByteArray) (a b c d : Value) : KB w f id ((w.alloc (.cells #[.int .u8 f, .string id] 95)).alloc (.cells #[a, b, c, d] 38)) :=
  ⟨by simp [go_sem], by simp [go_sem], ((Below.refl _ w).alloc (Nat.le_refl _) _).alloc (by simp) _, by simp, a, b, c, d, by have := heap_alloc_new (w.alloc (.cells #[.int .u8 f, .string id] 95)) (.cells #[a, b, c, d] 38); simpa using this⟩
theorem KB.drew {w : World} {f : Int} {id : ByteArray} {W : World} (h : KB w f id W) : KB w f id W.drew := ⟨h.c0, h.c1, h.below.drew, h.lt, h.res⟩
theorem KB.step {w : World} {f : Int} {id : ByteArray} {W W' : World} (h : KB w f id W) (hb : Below W.heap.size W W') : KB w f id W' := by
  have hl := h.lt
  obtain ⟨a, b, c, d, hr⟩ := h.res
  exact ⟨(hb.cell (p := ⟨w.heap.size, 0, none⟩) (show w.heap.size < _ by omega)).trans h.c0, (hb.cell (p := ⟨w.heap.size, 1, none⟩) (show w.heap.size < _ by omega)).trans h.c1, h.below.trans (hb.mono (by omega)), Nat.le_trans h.lt hb.size, a, b, c, d, (hb.block _ (by omega)).trans hr⟩
theorem KB.put {w : World} {f : Int} {id : ByteArray} {W : World} (h : KB w f id W) (v0 v1 v2 v3 : Value) : KB w f id ((((W.setCell ⟨w.heap.size + 1, 0, none⟩ v0).setCell ⟨w.heap.size + 1, 1, none⟩ v1).setCell ⟨w.heap.size + 1, 2, none⟩ v2).setCell ⟨w.heap.size + 1, 3, none⟩ v3) := by
  obtain ⟨a, b, c, d, hr⟩ := h.res
  refine ⟨(L4.cell_same (set4_other _ _ _ _ _ _ _ (by omega)) 0).trans h.c0, (L4.cell_same (set4_other _ _ _ _ _ _ _ (by omega)) 1).trans h.c1, h.below.trans ⟨rfl, rfl, rfl, by rw [set4_size]; exact Nat.le_refl _, fun k hk => set4_other _ _ _ _ _ _ _ (by omega)⟩, by rw [set4_size]; exact h.lt, v0, v1, v2, v3, set4 _ _ _ _ _ _ _ _ _ _ hr⟩
theorem KB.s {w : World} {f : Int} {id : ByteArray} {W : World} (h : KB w f id W) : W.cell? ⟨w.heap.size, 0, none⟩ = some (.int .u8 f) ∧ W.cell? ⟨w.heap.size, 1, none⟩ = some (.string id) ∧ KB w f id W := ⟨h.c0, h.c1, h⟩

set_option maxHeartbeats 2000000 in
theorem kidCell37 (f : Int) (id : ByteArray) (w : World) (h0 : 0 ≤ f) (h1 : f ≤ 255) (h2 : id.size ≤ 9223372036854775807) :
    Calls Tryz.prog 92 #[.agg #[.int .u8 f, .string id]] w (ListOf w [numC f, textC id]) := by
  have HK := Lib.hid (KB.start w f id (.int .i64 0) (.int .i64 0) (.string ⟨#[]⟩) (.slice none 0 0))
  have HBU : Hid (∀ W : World, w.heap.size + 2 ≤ W.heap.size → LNF (w.heap.size + 2) (W.alloc (.cells #[.int .i64 1, .int .i64 f, .string ⟨#[]⟩, .slice none 0 0, .int .i64 2, .int .i64 0, .string id, .slice none 0 0] 38)) (W.alloc (.cells #[.int .i64 1, .int .i64 f, .string ⟨#[]⟩, .slice none 0 0, .int .i64 2, .int .i64 0, .string id, .slice none 0 0] 38)).heap.size 2 (.slice (some ⟨W.heap.size, 0, none⟩) 2 2) [numC f, textC id]) := fun W hW =>
    lnf_built hW [(numC f, .slice none 0 0), (textC id, .slice none 0 0)] 1 (fun x hx => by
      simp only [List.mem_cons, List.not_mem_nil, or_false] at hx
      rcases hx with rfl | rfl
      · exact ⟨wf_num (by omega) (by omega), lnf_nil _ _ _ _⟩
      · exact ⟨wf_text h2, lnf_nil _ _ _ _⟩) (by simp)
  have HCN : Hid (L4.cntL [numC f, textC id] ≤ 5000) := by unfold Hid; simp [L4.cntL_cons, L4.cntL_nil, numC, textC, L4.cntC_mk]
  have hw : IntKind.i64.wrap f = f := IntWalk.i64_in _ (by omega)
  clear h0 h1 h2
  go_enter Tryz.func92, Tryz.ntmps92
  go_wp2_with fail
  go_region_held3 (fun W => W.cell? ⟨w.heap.size, 0, none⟩ = some (.int .u8 f) ∧ W.cell? ⟨w.heap.size, 1, none⟩ = some (.string id) ∧ KB w f id W)
    ((apply KB.s; first | exact HK.out.drew | exact KB.put (by go_split_ands; assumption) _ _ _ _ | exact KB.step (by go_split_ands; assumption) (by assumption) | exact KB.step (by go_split_ands; assumption) ((Below.refl _ _).alloc (Nat.le_refl _) _))) (first | (go_at_call 88; refine (L4.num16 _ _).mono ?_; rintro e w2 ⟨rfl, hb⟩) | (go_at_call 90; refine (L4.text17 _ _).mono ?_; rintro e w2 ⟨rfl, hb⟩; have hz2 := Lib.hid (KB.lt (KB.step (by go_split_ands; assumption) hb))) | (go_at_call 89; refine (L4.list18 (lo := w.heap.size + 2) _ _ 2 _ (HBU.out _ (Hid.out (by assumption))) HCN.out (Nat.le_trans (KB.lt (by go_split_ands; assumption)) (by simp))).mono ?_; rintro e w4 ⟨A, n, cap, D, rfl, hl, hb⟩; have HL := Lib.hid hl; clear hl; obtain ⟨a, b, c, d, hr⟩ := KB.res (KB.step (by go_split_ands; assumption) hb); obtain ⟨z0, z1, z2, z3, z4, z5, z6, z7⟩ := row_facts hr; have HR := Lib.hid hr; have HKB := Lib.hid (KB.step (by go_split_ands; assumption) hb); clear hr))
  have HSS := Lib.hid (L4.size_four 3 0 ⟨#[]⟩ A n cap)
  go_wp2
  refine bodyPost_ret (results_cell_row (p := 2) (ty := 38) rfl _ _ (w.heap.size + 1) 38 #[.int .i64 3, .int .i64 0, .string ⟨#[]⟩, .slice A n cap] (0, 0) _ ?hp (set4 _ _ _ _ _ _ _ _ _ _ HR.out) Tryz.underlying38 rfl (by exact HSS.out)) rfl ?_
  case hp => rfl
  exact ListOf.put (by omega) HL.out HKB.out.below

/-- What lies while rowCell's list is built. -/
structure RB (w : World) (f e : Int) (T : Nat) (vk vn : Int) (vs : ByteArray) (W : World) : Prop where
  c0 : W.cell? ⟨w.heap.size, 0, none⟩ = some (.int .i64 f)
  c1 : W.cell? ⟨w.heap.size, 1, none⟩ = some (.int .i64 e)
  t0 : W.cell? ⟨T, 0, none⟩ = some (.int .i64 vk)
  t1 : W.cell? ⟨T, 1, none⟩ = some (.int .i64 vn)
  t2 : W.cell? ⟨T, 2, none⟩ = some (.string vs)
  t3 : W.cell? ⟨T, 3, none⟩ = some (.slice none 0 0)
  below : Below w.heap.size w W
  lt : w.heap.size + 2 ≤ W.heap.size
  tl : w.heap.size + 1 < T
  th : T < W.heap.size
  res : ∃ a b c d, W.heap[w.heap.size + 1]? = some (.cells #[a, b, c, d] 38 (0, 0))
theorem RB.step {w : World} {f e : Int} {T : Nat} {vk vn : Int} {vs : ByteArray} {W W' : World} (h : RB w f e T vk vn vs W) (hb : Below W.heap.size W W') : RB w f e T vk vn vs W' := by
  have hl := h.lt
  have ht := h.th
  have ht' := h.tl
  obtain ⟨a, b, c, d, hr⟩ := h.res
  exact ⟨(hb.cell (p := ⟨w.heap.size, 0, none⟩) (show w.heap.size < _ by omega)).trans h.c0, (hb.cell (p := ⟨w.heap.size, 1, none⟩) (show w.heap.size < _ by omega)).trans h.c1, (hb.cell (p := ⟨T, 0, none⟩) ht).trans h.t0, (hb.cell (p := ⟨T, 1, none⟩) ht).trans h.t1, (hb.cell (p := ⟨T, 2, none⟩) ht).trans h.t2, (hb.cell (p := ⟨T, 3, none⟩) ht).trans h.t3, h.below.trans (hb.mono (by omega)), Nat.le_trans h.lt hb.size, ht', Nat.lt_of_lt_of_le ht hb.size, a, b, c, d, (hb.block _ (by omega)).trans hr⟩
theorem RB.drew {w : World} {f e : Int} {T : Nat} {vk vn : Int} {vs : ByteArray} {W : World} (h : RB w f e T vk vn vs W) : RB w f e T vk vn vs W.drew := ⟨h.c0, h.c1, h.t0, h.t1, h.t2, h.t3, h.below.drew, h.lt, h.tl, h.th, h.res⟩
theorem RB.put {w : World} {f e : Int} {T : Nat} {vk vn : Int} {vs : ByteArray} {W : World} (h : RB w f e T vk vn vs W) (v0 v1 v2 v3 : Value) : RB w f e T vk vn vs ((((W.setCell ⟨w.heap.size + 1, 0, none⟩ v0).setCell ⟨w.heap.size + 1, 1, none⟩ v1).setCell ⟨w.heap.size + 1, 2, none⟩ v2).setCell ⟨w.heap.size + 1, 3, none⟩ v3) := by
  obtain ⟨a, b, c, d, hr⟩ := h.res
  have ht' := h.tl
  exact ⟨(L4.cell_same (set4_other _ _ _ _ _ _ _ (by omega)) 0).trans h.c0, (L4.cell_same (set4_other _ _ _ _ _ _ _ (by omega)) 1).trans h.c1, (L4.cell_same (set4_other _ _ _ _ _ _ _ (by omega)) 0).trans h.t0, (L4.cell_same (set4_other _ _ _ _ _ _ _ (by omega)) 1).trans h.t1, (L4.cell_same (set4_other _ _ _ _ _ _ _ (by omega)) 2).trans h.t2, (L4.cell_same (set4_other _ _ _ _ _ _ _ (by omega)) 3).trans h.t3,
    h.below.trans ⟨rfl, rfl, rfl, by rw [set4_size]; exact Nat.le_refl _, fun k hk => set4_other _ _ _ _ _ _ _ (by omega)⟩, by rw [set4_size]; exact h.lt, ht', by rw [set4_size]; exact h.th, v0, v1, v2, v3, set4 _ _ _ _ _ _ _ _ _ _ hr⟩
theorem RB.s {w : World} {f e : Int} {T : Nat} {vk vn : Int} {vs : ByteArray} {W : World} (h : RB w f e T vk vn vs W) :
    W.cell? ⟨w.heap.size, 0, none⟩ = some (.int .i64 f) ∧ W.cell? ⟨w.heap.size, 1, none⟩ = some (.int .i64 e) ∧ W.cell? ⟨T, 0, none⟩ = some (.int .i64 vk) ∧ W.cell? ⟨T, 1, none⟩ = some (.int .i64 vn) ∧ W.cell? ⟨T, 2, none⟩ = some (.string vs) ∧ W.cell? ⟨T, 3, none⟩ = some (.slice none 0 0) ∧ RB w f e T vk vn vs W := ⟨h.c0, h.c1, h.t0, h.t1, h.t2, h.t3, h⟩

theorem row_built (f e vk vn : Int) (vs : ByteArray) (W : World) (lo : Nat) (hlo : lo ≤ W.heap.size) (h0 : -9223372036854775808 ≤ f) (h1 : f ≤ 9223372036854775807) (h2 : -9223372036854775808 ≤ e) (h3 : e ≤ 9223372036854775807) (hw : Wf (.mk vk vn vs [])) :
    LNF lo (W.alloc (.cells #[.int .i64 1, .int .i64 f, .string ⟨#[]⟩, .slice none 0 0, .int .i64 1, .int .i64 e, .string ⟨#[]⟩, .slice none 0 0, .int .i64 vk, .int .i64 vn, .string vs, .slice none 0 0] 38)) (W.alloc (.cells #[.int .i64 1, .int .i64 f, .string ⟨#[]⟩, .slice none 0 0, .int .i64 1, .int .i64 e, .string ⟨#[]⟩, .slice none 0 0, .int .i64 vk, .int .i64 vn, .string vs, .slice none 0 0] 38)).heap.size 2 (.slice (some ⟨W.heap.size, 0, none⟩) 3 3) [numC f, numC e, .mk vk vn vs []] :=
  lnf_built hlo [(numC f, .slice none 0 0), (numC e, .slice none 0 0), (.mk vk vn vs [], .slice none 0 0)] 1 (fun x hx => by
    simp only [List.mem_cons, List.not_mem_nil, or_false] at hx
    rcases hx with rfl | rfl | rfl
    · exact ⟨wf_num h0 h1, lnf_nil _ _ _ _⟩
    · exact ⟨wf_num h2 h3, lnf_nil _ _ _ _⟩
    · exact ⟨hw, lnf_nil _ _ _ _⟩) (by simp)

/-- The world ahead of rowCell's last statement. -/
def RowStart (w : World) (f e k n : Int) (s : ByteArray) : World := (w.alloc (.cells #[.int .i64 f, .int .i64 e, .int .i64 k, .int .i64 n, .string s] 93)).alloc (.cells #[.int .i64 0, .int .i64 0, .string ⟨#[]⟩, .slice none 0 0] 38)
structure RS (w : World) (f e k n : Int) (s : ByteArray) (W : World) : Prop where
  c0 : W.cell? ⟨w.heap.size, 0, none⟩ = some (.int .i64 f)
  c1 : W.cell? ⟨w.heap.size, 1, none⟩ = some (.int .i64 e)
  c2 : W.cell? ⟨w.heap.size, 2, none⟩ = some (.int .i64 k)
  c3 : W.cell? ⟨w.heap.size, 3, none⟩ = some (.int .i64 n)
  c4 : W.cell? ⟨w.heap.size, 4, none⟩ = some (.string s)
  below : Below w.heap.size w W
  lt : w.heap.size + 2 ≤ W.heap.size
  res : ∃ a b c d, W.heap[w.heap.size + 1]? = some (.cells #[a, b, c, d] 38 (0, 0))
theorem RS.start (w : World) (f e k n : Int) (s : ByteArray) : RS w f e k n s (RowStart w f e k n s) :=
  ⟨by simp [RowStart, go_sem], by simp [RowStart, go_sem], by simp [RowStart, go_sem], by simp [RowStart, go_sem], by simp [RowStart, go_sem], ((Below.refl _ w).alloc (Nat.le_refl _) _).alloc (by simp) _, by simp [RowStart], _, _, _, _, by have := heap_alloc_new (w.alloc (.cells #[.int .i64 f, .int .i64 e, .int .i64 k, .int .i64 n, .string s] 93)) (.cells #[.int .i64 0, .int .i64 0, .string ⟨#[]⟩, .slice none 0 0] 38); simpa [RowStart] using this⟩
theorem RS.step {w : World} {f e k n : Int} {s : ByteArray} {W W' : World} (h : RS w f e k n s W) (hb : Below W.heap.size W W') : RS w f e k n s W' := by
  have hl := h.lt
  obtain ⟨a, b, c, d, hr⟩ := h.res
  exact ⟨(hb.cell (p := ⟨w.heap.size, 0, none⟩) (show w.heap.size < _ by omega)).trans h.c0, (hb.cell (p := ⟨w.heap.size, 1, none⟩) (show w.heap.size < _ by omega)).trans h.c1, (hb.cell (p := ⟨w.heap.size, 2, none⟩) (show w.heap.size < _ by omega)).trans h.c2, (hb.cell (p := ⟨w.heap.size, 3, none⟩) (show w.heap.size < _ by omega)).trans h.c3, (hb.cell (p := ⟨w.heap.size, 4, none⟩) (show w.heap.size < _ by omega)).trans h.c4, h.below.trans (hb.mono (by omega)), Nat.le_trans h.lt hb.size, a, b, c, d, (hb.block _ (by omega)).trans hr⟩
theorem RS.rb {w : World} {f e k n : Int} {s : ByteArray} {W W' : World} (h : RS w f e k n s W) (hb : Below W.heap.size W W') {vk vn : Int} {vs : ByteArray} (hz : W.heap.size < W'.heap.size) (hv : W'.heap[W.heap.size]? = some (.cells #[.int .i64 vk, .int .i64 vn, .string vs, .slice none 0 0] 38 (0, 0))) : RB w f e W.heap.size vk vn vs W' := by
  have h' := h.step hb
  exact ⟨h'.c0, h'.c1, cell_of_row W' _ 0 _ 38 (0, 0) hv, cell_of_row W' _ 1 _ 38 (0, 0) hv, cell_of_row W' _ 2 _ 38 (0, 0) hv, cell_of_row W' _ 3 _ 38 (0, 0) hv, h'.below, h'.lt, by have := h.lt; omega, hz, h'.res⟩

set_option maxHeartbeats 2000000 in
theorem rowCell27_num (f e k n : Int) (s : ByteArray) (w : World) (h0 : -9223372036854775808 ≤ f) (h1 : f ≤ 9223372036854775807) (h2 : -9223372036854775808 ≤ e) (h3 : e ≤ 9223372036854775807) (h4 : -9223372036854775808 ≤ n) (h5 : n ≤ 9223372036854775807) (hk : (k == 2) = false) :
    Calls Tryz.prog 54 #[.agg #[.int .i64 f, .int .i64 e, .int .i64 k, .int .i64 n, .string s]] w (ListOf w [numC f, numC e, numC n]) := by
  have HS := Lib.hid (RS.start w f e k n s)
  unfold RowStart at HS
  have HBU : Hid (∀ (W : World) (lo : Nat), lo ≤ W.heap.size → _) := fun W lo hW => row_built f e 1 n ⟨#[]⟩ W lo hW h0 h1 h2 h3 (wf_num h4 h5)
  have HCN : Hid (L4.cntL [numC f, numC e, .mk 1 n ⟨#[]⟩ []] ≤ 5000) := by unfold Hid; simp [L4.cntL_cons, L4.cntL_nil, numC, L4.cntC_mk]
  clear h0 h1 h2 h3 h4 h5
  go_enter Tryz.func54, Tryz.ntmps54
  go_wp2_with fail
  refine (L4.num16 _ _).mono ?_
  rintro _ w1 ⟨rfl, hb1⟩
  have HS1 := Lib.hid (HS.out.step hb1)
  obtain ⟨c0, c1, c2, c3, c4, -, -, -⟩ := HS1.out
  have HRB := Lib.hid (RS.rb HS1.out ((Below.refl _ w1).alloc (Nat.le_refl _) (.cells #[.int .i64 1, .int .i64 n, .string ⟨#[]⟩, .slice none 0 0] 38)) (by simp) (heap_alloc_new _ _))
  obtain ⟨d0, d1, d2, d3, d4, -, -, -⟩ := HS1.out.step ((Below.refl _ w1).alloc (Nat.le_refl _) (.cells #[.int .i64 1, .int .i64 n, .string ⟨#[]⟩, .slice none 0 0] 38))
  clear HS hb1
  go_wp2_with fail
  clear c0 c1 c2 c3 c4 d0 d1 d2 d3 d4
  go_region_held3 (fun W => W.cell? ⟨w.heap.size, 0, none⟩ = some (.int .i64 f) ∧ W.cell? ⟨w.heap.size, 1, none⟩ = some (.int .i64 e) ∧ W.cell? ⟨w1.heap.size, 0, none⟩ = some (.int .i64 1) ∧ W.cell? ⟨w1.heap.size, 1, none⟩ = some (.int .i64 n) ∧ W.cell? ⟨w1.heap.size, 2, none⟩ = some (.string ⟨#[]⟩) ∧ W.cell? ⟨w1.heap.size, 3, none⟩ = some (.slice none 0 0) ∧ RB w f e w1.heap.size 1 n ⟨#[]⟩ W)
    ((apply RB.s; first | exact HRB.out.drew | exact RB.put (by go_split_ands; assumption) _ _ _ _ | exact RB.step (by go_split_ands; assumption) (by assumption) | exact RB.step (by go_split_ands; assumption) ((Below.refl _ _).alloc (Nat.le_refl _) _))) (first | (go_at_call 88; refine (L4.num16 _ _).mono ?_; rintro _ w2 ⟨rfl, hb⟩; have hz2 := Lib.hid (RB.lt (RB.step (by go_split_ands; assumption) hb))) | (go_at_call 89; refine (L4.list18 (lo := w.heap.size + 2) _ _ 2 _ (HBU.out _ _ (Hid.out (by assumption))) HCN.out (Nat.le_trans (RB.lt (by go_split_ands; assumption)) (by simp))).mono ?_; rintro _ w4 ⟨A, m, cap, D, rfl, hl, hb⟩; have HL := Lib.hid hl; clear hl; obtain ⟨a, b, c, d, hr⟩ := RB.res (RB.step (by go_split_ands; assumption) hb); obtain ⟨z0, z1, z2, z3, z4, z5, z6, z7⟩ := row_facts hr; have HR := Lib.hid hr; have HKB := Lib.hid (RB.step (by go_split_ands; assumption) hb); clear hr))
  have HSS := Lib.hid (L4.size_four 3 0 ⟨#[]⟩ A m cap)
  go_wp2
  refine bodyPost_ret (results_cell_row (p := 2) (ty := 38) rfl _ _ (w.heap.size + 1) 38 #[.int .i64 3, .int .i64 0, .string ⟨#[]⟩, .slice A m cap] (0, 0) _ ?hp (set4 _ _ _ _ _ _ _ _ _ _ HR.out) Tryz.underlying38 rfl (by exact HSS.out)) rfl ?_
  case hp => rfl
  exact ListOf.put (by omega) HL.out HKB.out.below
end Go.Proofs.YtjanddnlhaionaaGreatDoor
namespace Go.Proofs.YtjanddnlhaionaaGreatDoor
open Go.RowKit
open L4 (C LIn LNF Unf Wf rcells)
open L2 (Row Vl RowsAt rowsOK valOK)

set_option maxHeartbeats 2000000 in
theorem rowCell27_text (f e k n : Int) (s : ByteArray) (w : World) (h0 : -9223372036854775808 ≤ f) (h1 : f ≤ 9223372036854775807) (h2 : -9223372036854775808 ≤ e) (h3 : e ≤ 9223372036854775807) (h4 : s.size ≤ 9223372036854775807) (hk : (k == 2) = true) :
    Calls Tryz.prog 54 #[.agg #[.int .i64 f, .int .i64 e, .int .i64 k, .int .i64 n, .string s]] w (ListOf w [numC f, numC e, textC s]) := by
  have HS := Lib.hid (RS.start w f e k n s)
  unfold RowStart at HS
  have HBU : Hid (∀ (W : World) (lo : Nat), lo ≤ W.heap.size → _) := fun W lo hW => row_built f e 2 0 s W lo hW h0 h1 h2 h3 (wf_text h4)
  have HCN : Hid (L4.cntL [numC f, numC e, .mk 2 0 s []] ≤ 5000) := by unfold Hid; simp [L4.cntL_cons, L4.cntL_nil, numC, L4.cntC_mk]
  clear h0 h1 h2 h3 h4
  go_enter Tryz.func54, Tryz.ntmps54
  go_wp2_with fail
  refine (L4.num16 _ _).mono ?_
  rintro _ w1 ⟨rfl, hb1⟩
  have HS1 := Lib.hid (HS.out.step hb1)
  obtain ⟨c0, c1, c2, c3, c4, -, -, -⟩ := HS1.out
  have ha : Below w1.heap.size w1 (w1.alloc (.cells #[.int .i64 1, .int .i64 n, .string ⟨#[]⟩, .slice none 0 0] 38)) := (Below.refl _ w1).alloc (Nat.le_refl _) _
  obtain ⟨d0, d1, d2, d3, d4, -, -, -⟩ := HS1.out.step ha
  have HA := Lib.hid ha
  clear HS hb1 ha
  go_wp2_with fail
  refine (L4.text17 _ _).mono ?_
  rintro _ w2 ⟨rfl, hb2⟩
  have hT : w2.heap[w1.heap.size]? = some (.cells #[.int .i64 1, .int .i64 n, .string ⟨#[]⟩, .slice none 0 0] 38 (0, 0)) := (hb2.block _ (by simp)).trans (heap_alloc_new w1 _)
  have hz : w1.heap.size < w2.heap.size := by have := hb2.size; simp at this; omega
  have hbW : Below w1.heap.size w1 (w2.setRow w1.heap.size #[.int .i64 2, .int .i64 0, .string s, .slice none 0 0]) := (HA.out.trans (hb2.mono (by simp))).trans ⟨rfl, rfl, rfl, by rw [setRow_size]; exact Nat.le_refl _, fun i hi => setRow_other _ _ _ _ (by omega)⟩
  have HRB := Lib.hid (RS.rb HS1.out hbW (by rw [setRow_size]; exact hz) (setRow_heap w2 w1.heap.size _ _ 38 (0, 0) hT))
  have HTT := Lib.hid hT
  have HS4 := Lib.hid (L4.size_four 2 0 s none 0 0)
  have HA4 := Lib.hid (L4.all_one 2 0 s none 0 0)
  clear hb2 hT hz hbW HA c0 c1 c2 c3 c4 d0 d1 d2 d3 d4
  go_wp2_with (refine wpList_store_row (P := Tryz.prog) rfl 38 _ _ rfl w1.heap.size #[.int .i64 2, .int .i64 0, .string s, .slice none 0 0] rfl rfl 38 _ HTT.out HS4.out rfl HA4.out ?_)
  go_region_held3 (fun W => W.cell? ⟨w.heap.size, 0, none⟩ = some (.int .i64 f) ∧ W.cell? ⟨w.heap.size, 1, none⟩ = some (.int .i64 e) ∧ W.cell? ⟨w1.heap.size, 0, none⟩ = some (.int .i64 2) ∧ W.cell? ⟨w1.heap.size, 1, none⟩ = some (.int .i64 0) ∧ W.cell? ⟨w1.heap.size, 2, none⟩ = some (.string s) ∧ W.cell? ⟨w1.heap.size, 3, none⟩ = some (.slice none 0 0) ∧ RB w f e w1.heap.size 2 0 s W)
    ((apply RB.s; first | exact HRB.out.drew | exact RB.put (by go_split_ands; assumption) _ _ _ _ | exact RB.step (by go_split_ands; assumption) (by assumption) | exact RB.step (by go_split_ands; assumption) ((Below.refl _ _).alloc (Nat.le_refl _) _))) (first | (go_at_call 88; refine (L4.num16 _ _).mono ?_; rintro _ w2 ⟨rfl, hb⟩; have hz2 := Lib.hid (RB.lt (RB.step (by go_split_ands; assumption) hb))) | (go_at_call 89; refine (L4.list18 (lo := w.heap.size + 2) _ _ 2 _ (HBU.out _ _ (Hid.out (by assumption))) HCN.out (Nat.le_trans (RB.lt (by go_split_ands; assumption)) (by simp))).mono ?_; rintro _ w4 ⟨A, m, cap, D, rfl, hl, hb⟩; have HL := Lib.hid hl; clear hl; obtain ⟨a, b, c, d, hr⟩ := RB.res (RB.step (by go_split_ands; assumption) hb); obtain ⟨z0, z1, z2, z3, z4, z5, z6, z7⟩ := row_facts hr; have HR := Lib.hid hr; have HKB := Lib.hid (RB.step (by go_split_ands; assumption) hb); clear hr))
  have HSS := Lib.hid (L4.size_four 3 0 ⟨#[]⟩ A m cap)
  go_wp2
  refine bodyPost_ret (results_cell_row (p := 2) (ty := 38) rfl _ _ (w.heap.size + 1) 38 #[.int .i64 3, .int .i64 0, .string ⟨#[]⟩, .slice A m cap] (0, 0) _ ?hp (set4 _ _ _ _ _ _ _ _ _ _ HR.out) Tryz.underlying38 rfl (by exact HSS.out)) rfl ?_
  case hp => rfl
  exact ListOf.put (by omega) HL.out HKB.out.below

theorem rowCell27 (f e k n : Int) (s : ByteArray) (w : World) (h0 : -9223372036854775808 ≤ f) (h1 : f ≤ 9223372036854775807) (h2 : -9223372036854775808 ≤ e) (h3 : e ≤ 9223372036854775807) (h4 : -9223372036854775808 ≤ n) (h5 : n ≤ 9223372036854775807) (h6 : s.size ≤ 9223372036854775807) :
    Calls Tryz.prog 54 #[.agg #[.int .i64 f, .int .i64 e, .int .i64 k, .int .i64 n, .string s]] w (ListOf w [numC f, numC e, vC (k, n, s)]) := by
  cases hk : (k == 2) with
  | true =>
    have : vC (k, n, s) = textC s := by unfold vC; rw [if_pos (by simpa using hk)]
    rw [this]
    exact rowCell27_text f e k n s w h0 h1 h2 h3 h6 hk
  | false =>
    have : vC (k, n, s) = numC n := by unfold vC; rw [if_neg (by simpa using hk)]
    rw [this]
    exact rowCell27_num f e k n s w h0 h1 h2 h3 h4 h5 hk
end Go.Proofs.YtjanddnlhaionaaGreatDoor
namespace Go.Proofs.YtjanddnlhaionaaGreatDoor
open Go.RowKit
open L4 (C LIn LNF Unf Wf rcells rowC)
open L2 (Row Vl RowsAt rowsOK valOK)

theorem lin_up {w : World} {S : Nat → Prop} : ∀ {d d' : Nat} {v : Value} {l : List C}, LIn w S d v l → d ≤ d' → LIn w S d' v l := fun h hd => L4.LIn.up h hd

/-- The slice v is the call's own, from base on, and holds the cells D; their lists lie in other new blocks. -/
structure OwnN (w : World) (base : Nat) (v : Value) (D : List (C × Value)) : Prop where
  row : w.ownsRow base 38 4 v D.length (rcells D)
  subs : ∀ x ∈ D, Wf x.1 ∧ ∃ d, LIn w (fun b => b < w.heap.size ∧ Unf base w b ∧ some b ≠ v.ownBlock) d x.2 x.1.l

theorem OwnN.nil (w : World) (base : Nat) : OwnN w base (.slice none 0 0) [] := ⟨World.ownsRow_nil w base 38 4, by simp⟩
theorem OwnN.slice {w : World} {base : Nat} {v : Value} {D : List (C × Value)} (h : OwnN w base v D) : ∃ A cap, v = .slice A D.length cap := by
  rcases h.row.2 with ⟨rfl, h0⟩ | ⟨g, cap, _, rfl, _⟩
  · exact ⟨none, 0, by rw [h0]⟩
  · exact ⟨_, cap, rfl⟩
theorem OwnN.step {w w' : World} {base : Nat} {v : Value} {D : List (C × Value)} (h : OwnN w base v D) (hb : Below w.heap.size w w') : OwnN w' base v D := by
  refine ⟨World.ownsRow.kept h.row (row := none) ⟨hb.os, hb.tape, hb.output, hb.size, fun i hi _ => hb.block i hi⟩ ?_, fun x hx => ?_⟩
  · cases hv : v.ownBlock with
    | none => exact .inl rfl
    | some k => exact .inr (by simp)
  · obtain ⟨h1, d, h2⟩ := h.subs x hx
    refine ⟨h1, d, h2.keep (fun b hb' => ⟨Nat.lt_of_lt_of_le hb'.1 hb.size, hb'.2.1.keep (hb.block b hb'.1), hb'.2.2⟩) fun b o hb' => L4.cell_same (hb.block b hb'.1) o⟩
theorem depth_all {w : World} {S : Nat → Prop} : ∀ (D : List (C × Value)), (∀ x ∈ D, ∃ d, LIn w S d x.2 x.1.l) → ∃ d, ∀ x ∈ D, LIn w S d x.2 x.1.l
  | [], _ => ⟨0, by simp⟩
  | x :: D, h => by
    obtain ⟨d1, h1⟩ := h x (by simp)
    obtain ⟨d2, h2⟩ := depth_all D (fun y hy => h y (by simp [hy]))
    refine ⟨Nat.max d1 d2, fun y hy => ?_⟩
    rcases List.mem_cons.1 hy with rfl | hy
    · exact lin_up h1 (Nat.le_max_left _ _)
    · exact lin_up (h2 y hy) (Nat.le_max_right _ _)
theorem OwnN.lnf {w : World} {base : Nat} {v : Value} {D : List (C × Value)} (h : OwnN w base v D) (h0 : 0 < base) : ∃ d, LNF base w w.heap.size d v (D.map (·.1)) := by
  rcases h.row.2 with ⟨rfl, h00⟩ | ⟨g, cap, cur, rfl, hb, hg, hnc, hcm, _, htake⟩
  · have : D = [] := List.length_eq_zero_iff.1 h00
    subst this
    exact ⟨1, lnf_nil _ _ _ _⟩
  · obtain ⟨d, hd⟩ := depth_all D (fun x hx => (h.subs x hx).2)
    refine ⟨d + 1, some ⟨g, 0, none⟩, cap, by rw [List.length_map], by rw [List.length_map]; exact hnc, hcm, fun _ => ⟨g, 0, rfl, (Array.getElem?_eq_some_iff.1 hg).1, fun i hi => ?_⟩⟩
    rw [List.length_map] at hi
    have hc : ∀ j, j < 4 → w.cell? ⟨g, 0 + i * 4 + j, none⟩ = (rowC D[i])[j]? := fun j hj => by
      rw [Nat.zero_add, cell_of_row w g (i * 4 + j) cur 38 (0, 0) hg, ← L4.rcells_get D i j hi hj, ← htake, List.getElem?_take, if_pos (by omega), Array.getElem?_toList]
    have hw := (h.subs D[i] (List.getElem_mem hi)).1
    have hs := hd D[i] (List.getElem_mem hi)
    refine ⟨D[i].2, ?_, by simpa using hw, ⟨hb, fun _ => ⟨_, _, hg⟩⟩, by simp [World.frozen?, hg], ?_⟩
    · simp only [List.getElem_map]
      exact ⟨hc 0 (by omega), hc 1 (by omega), hc 2 (by omega), hc 3 (by omega)⟩
    · simp only [List.getElem_map]
      exact LIn.lnf (fun b hb => ⟨hb.1, hb.2.1, hb.2.1.frozen h0⟩) hs

theorem OwnN.snoc {wr w2 w' : World} {base d : Nat} {v : Value} {D : List (C × Value)} {c : C} {u : Value} {g cap : Nat} {o : Obj} (h0 : OwnN wr base v D) (hb : base ≤ wr.heap.size) (h2 : OwnN w2 base v D)
    (hL : LNF wr.heap.size w2 w2.heap.size d u c.l) (hwf : Wf c) (ho : w'.ownsRow base 38 4 (.slice (some ⟨g, 0, none⟩) (D.length + 1) cap) (D.length + 1) (rcells D ++ rowC (c, u)))
    (hg : (w2.alloc o).grownBy w' v.ownBlock) (hgl : v.ownBlock = some g ∨ g = w2.heap.size + 1) : OwnN w' base (.slice (some ⟨g, 0, none⟩) (D.length + 1) cap) (D ++ [(c, u)]) := by
  have hsa : (w2.alloc o).heap.size = w2.heap.size + 1 := by simp
  have hsz := hg.size
  have hblk : ∀ b, b < w2.heap.size → some b ≠ v.ownBlock → w'.heap[b]? = w2.heap[b]? := fun b h1 h2 => (hg.block b (by omega) h2).trans (Below.heap_alloc w2 o b h1)
  have hne : ∀ b, b < w2.heap.size → some b ≠ v.ownBlock → some b ≠ (Value.slice (some ⟨g, 0, none⟩) (D.length + 1) cap).ownBlock := by
    intro b h1 h2 e
    simp only [Value.ownBlock, Option.some.injEq] at e
    rcases hgl with h3 | h3
    · exact h2 (by rw [h3, e])
    · omega
  refine ⟨?_, ?_⟩
  · rw [L4.rcells_append, List.length_append]
    exact ho
  · intro x hx
    rcases List.mem_append.1 hx with hx | hx
    · obtain ⟨hw, e, hl⟩ := h2.subs x hx
      exact ⟨hw, e, hl.keep (fun b hb => ⟨by have := hb.1; omega, hb.2.1.keep (hblk b hb.1 hb.2.2), hne b hb.1 hb.2.2⟩) fun b o' hb => L4.cell_same (hblk b hb.1 hb.2.2) o'⟩
    · rw [List.mem_singleton] at hx
      subst hx
      have hnv : ∀ b, wr.heap.size ≤ b → some b ≠ v.ownBlock := fun b hb e => by have := (h0.row.lt b e.symm).2; omega
      refine ⟨hwf, d, (lnf_lin hL).keep (fun b hb' => ?_) fun b o' hb' => L4.cell_same (hblk b hb'.1 (hnv b hb'.2.1)) o'⟩
      obtain ⟨h1, h3, h4⟩ := hb'
      exact ⟨by omega, ⟨by omega, fun hp => by obtain ⟨cs, t, h5⟩ := h4 (by omega); exact ⟨cs, t, (hblk b h1 (hnv b h3)).trans h5⟩⟩, hne b h1 (hnv b h3)⟩

theorem cntL_const {α : Type} (f : α → C) (k : Nat) (h : ∀ x, L4.cntC (f x) = k) : ∀ l : List α, L4.cntL (l.map f) = k * l.length
  | [] => by rw [List.map_nil, L4.cntL_nil]; rfl
  | x :: l => by rw [List.map_cons, L4.cntL_cons, h, cntL_const f k h l, List.length_cons, Nat.mul_add]; omega
theorem cnt_row (r : Row) : L4.cntC (rowCl r) = 4 := by
  unfold rowCl listC vC numC textC
  rw [L4.cntC_mk]
  split <;> simp [L4.cntL_cons, L4.cntL_nil, L4.cntC_mk]
theorem cnt_kid (k : Kd) : L4.cntC (kidCl k) = 3 := by
  unfold kidCl listC numC textC
  rw [L4.cntC_mk]
  simp [L4.cntL_cons, L4.cntL_nil, L4.cntC_mk]
theorem cnt_text (s : ByteArray) : L4.cntC (textC s) = 1 := by
  unfold textC
  rw [L4.cntC_mk, L4.cntL_nil]
end Go.Proofs.YtjanddnlhaionaaGreatDoor
namespace Go.Proofs.YtjanddnlhaionaaGreatDoor
open Go.RowKit
open L4 (C LIn LNF Unf Wf rcells rowC)
open L2 (Row Vl RowsAt rowsOK valOK)

def RowW (r : Row) : Prop := (-9223372036854775808 ≤ r.1 ∧ r.1 ≤ 9223372036854775807) ∧ (-9223372036854775808 ≤ r.2.1 ∧ r.2.1 ≤ 9223372036854775807) ∧ (-9223372036854775808 ≤ r.2.2.2.1 ∧ r.2.2.2.1 ≤ 9223372036854775807) ∧ r.2.2.2.2.size ≤ 9223372036854775807

/-- What listCell's loop keeps: the result's place, what was there, and the cells so far. -/
structure LC (w : World) (v : Value) (D : List (C × Value)) (W : World) : Prop where
  below : Below (w.heap.size + 1) (w.alloc (.cells #[.int .i64 0, .int .i64 0, .string ⟨#[]⟩, .slice none 0 0] 38)) W
  own : OwnN W (w.heap.size + 1) v D
theorem LC.start (w : World) : LC w (.slice none 0 0) [] (w.alloc (.cells #[.int .i64 0, .int .i64 0, .string ⟨#[]⟩, .slice none 0 0] 38)) := ⟨Below.refl _ _, OwnN.nil _ _⟩
theorem LC.old {w : World} {v : Value} {D : List (C × Value)} {W : World} (h : LC w v D W) : Below w.heap.size w W :=
  ((Below.refl _ w).alloc (Nat.le_refl _) _).trans (h.below.mono (by omega))
theorem LC.size {w : World} {v : Value} {D : List (C × Value)} {W : World} (h : LC w v D W) : w.heap.size + 1 ≤ W.heap.size := by
  have := h.below.size
  simpa using this
theorem LC.step {w : World} {v : Value} {D : List (C × Value)} {W W' : World} (h : LC w v D W) (hb : Below W.heap.size W W') : LC w v D W' := ⟨h.below.trans (hb.mono h.size), h.own.step hb⟩
theorem LC.row {w : World} {v : Value} {D : List (C × Value)} {W : World} (h : LC w v D W) : W.heap[w.heap.size]? = some (.cells #[.int .i64 0, .int .i64 0, .string ⟨#[]⟩, .slice none 0 0] 38 (0, 0)) :=
  (h.below.block w.heap.size (by omega)).trans (heap_alloc_new w _)

/-- A list's cell laid into the result's place, as a row. -/
theorem ListOf.row {w w3 : World} {l : List C} {B : Nat} {A : Option Addr} {n cap D : Nat} {cs : Array Value} (hB : w.heap.size ≤ B) (hl : LNF (B + 1) w3 w3.heap.size D (.slice A n cap) l) (hb : Below w.heap.size w w3) :
    ListOf w l (.returned (.agg #[.int .i64 3, .int .i64 0, .string ⟨#[]⟩, .slice A n cap])) (w3.setRow B cs) := by
  refine ⟨A, n, cap, D, rfl, ?_, hb.trans ⟨rfl, rfl, rfl, by rw [setRow_size]; exact Nat.le_refl _, fun k hk => setRow_other _ _ _ _ (by omega)⟩⟩
  rw [setRow_size]
  refine LIn.lnf (S := fun b => b < w3.heap.size ∧ Unf (B + 1) w3 b) (fun b hb' => ⟨hb'.1, ?_⟩) ((lnf_lin hl).keep (fun b h => h) fun b o hb' => L4.cell_same (setRow_other _ _ _ _ ?_) o)
  · obtain ⟨-, h3, h4'⟩ := hb'
    obtain ⟨t0, t, h4⟩ := h4' (Nat.succ_pos _)
    have h5 := (setRow_other w3 B b cs (by omega)).trans h4
    exact ⟨⟨by omega, fun _ => ⟨t0, t, h5⟩⟩, fun o => by simp only [World.frozen?, h5]; simp⟩
  · have := hb'.2.1; omega

theorem append_end {w wr w2 w' : World} {A : Option Addr} {c0 d g cap : Nat} {D : List (C × Value)} {c : C} {u : Value} {o : Obj} (h0 : LC w (.slice A D.length c0) D wr) (h2 : LC w (.slice A D.length c0) D w2)
    (hL : LNF wr.heap.size w2 w2.heap.size d u c.l) (hwf : Wf c) (ho : w'.ownsRow (w.heap.size + 1) 38 4 (.slice (some ⟨g, 0, none⟩) (D.length + 1) cap) (D.length + 1) (rcells D ++ rowC (c, u)))
    (hg : (w2.alloc o).grownBy w' (Value.slice A D.length c0).ownBlock) (hgl : (Value.slice A D.length c0).ownBlock = some g ∨ g = w2.heap.size + 1) : LC w (.slice (some ⟨g, 0, none⟩) (D.length + 1) cap) (D ++ [(c, u)]) w' := by
  refine ⟨?_, h0.own.snoc h0.size h2.own hL hwf ho hg hgl⟩
  have hs := h2.size
  have hsz : (w2.alloc o).heap.size = w2.heap.size + 1 := by simp
  refine h2.below.trans ⟨hg.os, hg.tape, hg.output, by have := hg.size; omega, fun i hi => ?_⟩
  refine (hg.block i (by omega) fun e => ?_).trans (Below.heap_alloc w2 o i (by omega))
  have := (h2.own.row.lt i e.symm).1
  omega

set_option maxHeartbeats 2000000 in
theorem listCell26 (l : List Row) (v : Value) (w : World) (h : RowsAt w w.heap.size v l) (hl : l.length ≤ 1000) (hw : ∀ r ∈ l, RowW r) :
    Calls Tryz.prog 53 #[v, .func (.func 54) #[] #[]] w (ListOf w (l.map rowCl)) := by
  obtain ⟨i0, hi, hz0, hz1, hz2⟩ := L4.info25
  obtain ⟨A, cap, rfl, h1, h2, h3⟩ := h
  unfold maxLen at h2
  have HLC := Lib.hid (LC.start w)
  have HW := Lib.hid hw
  clear hw
  go_enter Tryz.func53, Tryz.ntmps53
  go_wp2_with fail
  go_loopw [5, 10] (fun s5 i wr => ∃ (k : Nat) (D : List (C × Value)), k ≤ l.length ∧ i = .int .i64 k ∧ Hid (LC w s5 D wr) ∧ Hid (D.map (·.1) = (l.take k).map rowCl) ∧ D.length = k) (fun _ i _ => l.length - (intOf i).toNat)
  case atStart => exact ⟨0, [], Nat.zero_le _, rfl, HLC.out, rfl, rfl⟩
  case round =>
    obtain ⟨k, D, hk, rfl, HL, HD, rfl⟩ := hrel
    clear HLC
    have HL0 := HL
    obtain ⟨A1, c1, rfl⟩ := HL.out.own.slice
    by_cases hlt : D.length < l.length
    · obtain ⟨b, o, rfl, hb, hr⟩ := h3 (by omega)
      have hrk := (hr D.length hlt).below HL.out.old hb
      have hwk := HW.out l[D.length] (List.getElem_mem hlt)
      have ht : l.take (D.length + 1) = l.take D.length ++ [l[D.length]] := List.take_succ_eq_append_getElem hlt
      have hbl : b < wr.heap.size := Nat.lt_of_lt_of_le hb HL.out.old.size
      generalize l[D.length] = r at hrk hwk ht
      obtain ⟨f, e, kk, n, s⟩ := r
      obtain ⟨c0, c1', c2, c3, c4⟩ := hrk
      obtain ⟨⟨b0, b1⟩, ⟨b2, b3⟩, ⟨b4, b5⟩, b6⟩ := hwk
      simp only at c0 c1' c2 c3 c4 b0 b1 b2 b3 b4 b5 b6
      have HR := Lib.hid (fun W => rowCell27 f e kk n s W b0 b1 b2 b3 b4 b5 b6)
      have HT : Hid (∀ u, ((D ++ [(rowCl (f, e, kk, n, s), u)]).map (fun x : C × Value => x.1)) = (l.take (D.length + 1)).map rowCl) := fun u => by rw [List.map_append, ht, List.map_append, HD.out]; rfl
      have HA := Lib.hid (HL.out.step ((Below.refl _ wr).alloc (Nat.le_refl _) (.cells #[.int .i64 f, .int .i64 e, .int .i64 kk, .int .i64 n, .string s] 93)))
      have HAB : Hid (Below wr.heap.size wr (wr.alloc (.cells #[.int .i64 f, .int .i64 e, .int .i64 kk, .int .i64 n, .string s] 93))) := (Below.refl _ wr).alloc (Nat.le_refl _) _
      clear ht b0 b1 b2 b3 b4 b5 b6 HD HL h3 hr
      go_wp2_with fail
      refine (HR.out _).mono ?_
      rintro _ w2 ⟨A2, m, cap2, d, rfl, hl2, hb2⟩
      have HL2 := Lib.hid (HA.out.step hb2)
      have HN : Hid (LNF wr.heap.size w2 w2.heap.size d (.slice A2 m cap2) (rowCl (f, e, kk, n, s)).l) := lnf_lo HAB.out.size hl2
      have hsz2 := HL2.out.size
      clear hl2 hb2 HA HR HAB c0 c1' c2 c3 c4
      go_wp2_with (at_builtin; go_must (refine wpList_append_lies _ rfl _ _ 36 rfl (w.heap.size + 1) 38 i0 _ 4 56 Tryz.underlying36 hi hz0 hz1 hz2 rfl (by omega) _ D.length (rcells D) rfl ?own ⟨w2.heap.size, 0, none⟩ 1 1 (rowC (rowCl (f, e, kk, n, s), .slice A2 m cap2)) rfl rfl ?news ?one (by omega) ?c3 ?c4 ?c5 _ rfl ?_))
      case own => exact World.ownsRow.alloc HL2.out.own.row _
      case news =>
        refine World.news_of_block (cs := #[.int .i64 3, .int .i64 0, .string ⟨#[]⟩, .slice A2 m cap2]) (t := 38) (fr := (0, 0)) ?_
        exact heap_alloc_new w2 (.cells #[.int .i64 3, .int .i64 0, .string ⟨#[]⟩, .slice A2 m cap2] 38)
      case one => simp [rowC, rowCl, listC, L4.k_mk, L4.n_mk, L4.s_mk, Value.oneCell']
      case c3 => unfold maxLen; omega
      case c4 => omega
      case c5 => simp; omega
      rintro g c w' ho hg hgl hlt2
      have hgl' : (Value.slice A1 D.length c1).ownBlock = some g ∨ g = w2.heap.size + 1 := by simpa using hgl
      have HE := Lib.hid (append_end HL0.out HL2.out HN.out ⟨by show (-9223372036854775808 : Int) ≤ 3; omega, by show (3 : Int) ≤ _; omega, by show (-9223372036854775808 : Int) ≤ 0; omega, by show (0 : Int) ≤ _; omega, by show (0 : Nat) ≤ _; omega⟩ ho hg hgl')
      have HT2 := Lib.hid (HT.out (.slice A2 m cap2))
      have hDl : (D ++ [(rowCl (f, e, kk, n, s), Value.slice A2 m cap2)]).length = D.length + 1 := by rw [List.length_append]; rfl
      have HDL := Lib.hid hDl
      clear ho hg hgl hgl' HL2 HL0 HN HT hDl
      go_wp2_with fail
      go_roundw
      case rel => exact ⟨D.length + 1, D ++ [(rowCl (f, e, kk, n, s), Value.slice A2 m cap2)], by omega, by go_num, HE, HT2, HDL.out⟩
      case measure => simp [intOf]; omega
    · have hkl : D.length = l.length := by omega
      have HM : Hid (D.map (·.1) = l.map rowCl) := by unfold Hid; rw [HD.out, hkl, List.take_length]
      obtain ⟨dd, hln⟩ := HL.out.own.lnf (Nat.succ_pos _)
      have HC := Lib.hid (L4.list18 (lo := w.heap.size + 1) (D.map (·.1)) _ dd wr hln (by rw [HM.out, cntL_const rowCl 4 cnt_row]; omega) HL.out.size (Nat.succ_pos _))
      have HB0 := Lib.hid HL.out.row
      have HSZ := Lib.hid HL.out.size
      have HBL := Lib.hid HL.out.old
      clear HD HL HL0 hln hkl
      go_wp2_with fail
      refine HC.out.mono ?_
      rintro _ w3 ⟨A3, n3, cap3, D3, rfl, hl3, hb3⟩
      have HP := Lib.hid ((hb3.block w.heap.size (by have := HSZ.out; omega)).trans HB0.out)
      have HSS := Lib.hid (L4.size_four 3 0 ⟨#[]⟩ A3 n3 cap3)
      have HALL := Lib.hid (L4.all_one 3 0 ⟨#[]⟩ A3 n3 cap3)
      have HE := Lib.hid (ListOf.row (cs := #[.int .i64 3, .int .i64 0, .string ⟨#[]⟩, .slice A3 n3 cap3]) (Nat.le_refl _) (HM.out ▸ hl3) (HBL.out.trans (hb3.mono HBL.out.size)))
      clear hl3 hb3 HB0 HBL HC HM
      go_wp2_with (refine wpList_store_row (P := Tryz.prog) rfl 38 _ _ rfl w.heap.size #[.int .i64 3, .int .i64 0, .string ⟨#[]⟩, .slice A3 n3 cap3] rfl rfl 38 _ HP.out HSS.out rfl HALL.out ?_)
      refine bodyPost_ret (results_cell_row (p := 4) (ty := 38) rfl _ _ w.heap.size 38 #[.int .i64 3, .int .i64 0, .string ⟨#[]⟩, .slice A3 n3 cap3] (0, 0) _ ?hp (setRow_heap _ w.heap.size _ _ 38 (0, 0) HP.out) Tryz.underlying38 rfl (by exact HSS.out)) rfl ?_
      case hp => simp [Act.put]
      exact HE.out
end Go.Proofs.YtjanddnlhaionaaGreatDoor
namespace Go.Proofs.YtjanddnlhaionaaGreatDoor
open Go.RowKit
open L4 (C LIn LNF Unf Wf rcells rowC)
open L2 (Row Vl RowsAt rowsOK valOK)

set_option maxHeartbeats 2000000 in
theorem listCell36 (l : List Kd) (v : Value) (w : World) (h : KidsAt w w.heap.size v l) (hl : l.length ≤ 1000) (hw : ∀ k ∈ l, k.id.size ≤ 9223372036854775807) :
    Calls Tryz.prog 91 #[v, .func (.func 92) #[] #[]] w (ListOf w (l.map kidCl)) := by
  obtain ⟨i0, hi, hz0, hz1, hz2⟩ := L4.info25
  obtain ⟨A, cap, rfl, h1, h2, h3⟩ := h
  unfold maxLen at h2
  have HLC := Lib.hid (LC.start w)
  have HW := Lib.hid hw
  clear hw
  go_enter Tryz.func91, Tryz.ntmps91
  go_wp2_with fail
  go_loopw [5, 10] (fun s5 i wr => ∃ (k : Nat) (D : List (C × Value)), k ≤ l.length ∧ i = .int .i64 k ∧ Hid (LC w s5 D wr) ∧ Hid (D.map (·.1) = (l.take k).map kidCl) ∧ D.length = k) (fun _ i _ => l.length - (intOf i).toNat)
  case atStart => exact ⟨0, [], Nat.zero_le _, rfl, HLC.out, rfl, rfl⟩
  case round =>
    obtain ⟨k, D, hk, rfl, HL, HD, rfl⟩ := hrel
    clear HLC
    have HL0 := HL
    obtain ⟨A1, c1, rfl⟩ := HL.out.own.slice
    by_cases hlt : D.length < l.length
    · obtain ⟨b, o, rfl, hb, hr⟩ := h3 (by omega)
      have hrk := hr D.length hlt
      have hwk := HW.out l[D.length] (List.getElem_mem hlt)
      have ht : l.take (D.length + 1) = l.take D.length ++ [l[D.length]] := List.take_succ_eq_append_getElem hlt
      have hbl : b < wr.heap.size := Nat.lt_of_lt_of_le hb HL.out.old.size
      generalize l[D.length] = r at hrk hwk ht
      obtain ⟨f, id⟩ := r
      obtain ⟨c0', c1'', b0, b1⟩ := hrk
      simp only at c0' c1'' b0 b1 hwk
      have c0 := (HL.out.old.cell (p := ⟨b, o + D.length * 2, none⟩) hb).trans c0'
      have c1' := (HL.out.old.cell (p := ⟨b, o + D.length * 2 + 1, none⟩) hb).trans c1''
      have HR := Lib.hid (fun W => kidCell37 f id W b0 b1 hwk)
      have HT : Hid (∀ u, ((D ++ [(kidCl ⟨f, id⟩, u)]).map (fun x : C × Value => x.1)) = (l.take (D.length + 1)).map kidCl) := fun u => by rw [List.map_append, ht, List.map_append, HD.out]; rfl
      have HA := Lib.hid (HL.out.step ((Below.refl _ wr).alloc (Nat.le_refl _) (.cells #[.int .u8 f, .string id] 95)))
      have HAB : Hid (Below wr.heap.size wr (wr.alloc (.cells #[.int .u8 f, .string id] 95))) := (Below.refl _ wr).alloc (Nat.le_refl _) _
      clear ht b0 b1 hwk c0' c1'' HD HL h3 hr
      go_wp2_with fail
      refine (HR.out _).mono ?_
      rintro _ w2 ⟨A2, m, cap2, d, rfl, hl2, hb2⟩
      have HL2 := Lib.hid (HA.out.step hb2)
      have HN : Hid (LNF wr.heap.size w2 w2.heap.size d (.slice A2 m cap2) (kidCl ⟨f, id⟩).l) := lnf_lo HAB.out.size hl2
      have hsz2 := HL2.out.size
      clear hl2 hb2 HA HR HAB c0 c1'
      go_wp2_with (at_builtin; go_must (refine wpList_append_lies _ rfl _ _ 36 rfl (w.heap.size + 1) 38 i0 _ 4 56 Tryz.underlying36 hi hz0 hz1 hz2 rfl (by omega) _ D.length (rcells D) rfl ?own ⟨w2.heap.size, 0, none⟩ 1 1 (rowC (kidCl ⟨f, id⟩, .slice A2 m cap2)) rfl rfl ?news ?one (by omega) ?c3 ?c4 ?c5 _ rfl ?_))
      case own => exact World.ownsRow.alloc HL2.out.own.row _
      case news =>
        refine World.news_of_block (cs := #[.int .i64 3, .int .i64 0, .string ⟨#[]⟩, .slice A2 m cap2]) (t := 38) (fr := (0, 0)) ?_
        exact heap_alloc_new w2 (.cells #[.int .i64 3, .int .i64 0, .string ⟨#[]⟩, .slice A2 m cap2] 38)
      case one => simp [rowC, kidCl, listC, L4.k_mk, L4.n_mk, L4.s_mk, Value.oneCell']
      case c3 => unfold maxLen; omega
      case c4 => omega
      case c5 => simp; omega
      rintro g c w' ho hg hgl hlt2
      have hgl' : (Value.slice A1 D.length c1).ownBlock = some g ∨ g = w2.heap.size + 1 := by simpa using hgl
      have HE := Lib.hid (append_end HL0.out HL2.out HN.out ⟨by show (-9223372036854775808 : Int) ≤ 3; omega, by show (3 : Int) ≤ _; omega, by show (-9223372036854775808 : Int) ≤ 0; omega, by show (0 : Int) ≤ _; omega, by show (0 : Nat) ≤ _; omega⟩ ho hg hgl')
      have HT2 := Lib.hid (HT.out (.slice A2 m cap2))
      have hDl : (D ++ [(kidCl ⟨f, id⟩, Value.slice A2 m cap2)]).length = D.length + 1 := by rw [List.length_append]; rfl
      have HDL := Lib.hid hDl
      clear ho hg hgl hgl' HL2 HL0 HN HT hDl
      go_wp2_with fail
      go_roundw
      case rel => exact ⟨D.length + 1, D ++ [(kidCl ⟨f, id⟩, Value.slice A2 m cap2)], by omega, by go_num, HE, HT2, HDL.out⟩
      case measure => simp [intOf]; omega
    · have hkl : D.length = l.length := by omega
      have HM : Hid (D.map (·.1) = l.map kidCl) := by unfold Hid; rw [HD.out, hkl, List.take_length]
      obtain ⟨dd, hln⟩ := HL.out.own.lnf (Nat.succ_pos _)
      have HC := Lib.hid (L4.list18 (lo := w.heap.size + 1) (D.map (·.1)) _ dd wr hln (by rw [HM.out, cntL_const kidCl 3 cnt_kid]; omega) HL.out.size (Nat.succ_pos _))
      have HB0 := Lib.hid HL.out.row
      have HSZ := Lib.hid HL.out.size
      have HBL := Lib.hid HL.out.old
      clear HD HL HL0 hln hkl
      go_wp2_with fail
      refine HC.out.mono ?_
      rintro _ w3 ⟨A3, n3, cap3, D3, rfl, hl3, hb3⟩
      have HP := Lib.hid ((hb3.block w.heap.size (by have := HSZ.out; omega)).trans HB0.out)
      have HSS := Lib.hid (L4.size_four 3 0 ⟨#[]⟩ A3 n3 cap3)
      have HALL := Lib.hid (L4.all_one 3 0 ⟨#[]⟩ A3 n3 cap3)
      have HE := Lib.hid (ListOf.row (cs := #[.int .i64 3, .int .i64 0, .string ⟨#[]⟩, .slice A3 n3 cap3]) (Nat.le_refl _) (HM.out ▸ hl3) (HBL.out.trans (hb3.mono HBL.out.size)))
      clear hl3 hb3 HB0 HBL HC HM
      go_wp2_with (refine wpList_store_row (P := Tryz.prog) rfl 38 _ _ rfl w.heap.size #[.int .i64 3, .int .i64 0, .string ⟨#[]⟩, .slice A3 n3 cap3] rfl rfl 38 _ HP.out HSS.out rfl HALL.out ?_)
      refine bodyPost_ret (results_cell_row (p := 4) (ty := 38) rfl _ _ w.heap.size 38 #[.int .i64 3, .int .i64 0, .string ⟨#[]⟩, .slice A3 n3 cap3] (0, 0) _ ?hp (setRow_heap _ w.heap.size _ _ 38 (0, 0) HP.out) Tryz.underlying38 rfl (by exact HSS.out)) rfl ?_
      case hp => simp [Act.put]
      exact HE.out
set_option maxHeartbeats 2000000 in
theorem listCell38 (l : List ByteArray) (v : Value) (w : World) (h : TxtsAt w w.heap.size v l) (hl : l.length ≤ 1000) (hw : ∀ s ∈ l, s.size ≤ 9223372036854775807) :
    Calls Tryz.prog 93 #[v, .func (.func 90) #[] #[]] w (ListOf w (l.map textC)) := by
  obtain ⟨i0, hi, hz0, hz1, hz2⟩ := L4.info25
  obtain ⟨A, cap, rfl, h1, h2, h3⟩ := h
  unfold maxLen at h2
  have HLC := Lib.hid (LC.start w)
  have HW := Lib.hid hw
  clear hw
  go_enter Tryz.func93, Tryz.ntmps93
  go_wp2_with fail
  go_loopw [5, 10] (fun s5 i wr => ∃ (k : Nat) (D : List (C × Value)), k ≤ l.length ∧ i = .int .i64 k ∧ Hid (LC w s5 D wr) ∧ Hid (D.map (·.1) = (l.take k).map textC) ∧ D.length = k) (fun _ i _ => l.length - (intOf i).toNat)
  case atStart => exact ⟨0, [], Nat.zero_le _, rfl, HLC.out, rfl, rfl⟩
  case round =>
    obtain ⟨k, D, hk, rfl, HL, HD, rfl⟩ := hrel
    clear HLC
    have HL0 := HL
    obtain ⟨A1, c1, rfl⟩ := HL.out.own.slice
    by_cases hlt : D.length < l.length
    · obtain ⟨b, o, rfl, hb, hr⟩ := h3 (by omega)
      have hrk := hr D.length hlt
      have hwk := HW.out l[D.length] (List.getElem_mem hlt)
      have ht : l.take (D.length + 1) = l.take D.length ++ [l[D.length]] := List.take_succ_eq_append_getElem hlt
      have hbl : b < wr.heap.size := Nat.lt_of_lt_of_le hb HL.out.old.size
      generalize l[D.length] = s at hrk hwk ht
      have c0 := (HL.out.old.cell (p := ⟨b, o + D.length, none⟩) hb).trans hrk
      have HWF := Lib.hid (wf_text hwk)
      have HT : Hid (∀ u, ((D ++ [(textC s, u)]).map (fun x : C × Value => x.1)) = (l.take (D.length + 1)).map textC) := fun u => by rw [List.map_append, ht, List.map_append, HD.out]; rfl
      clear ht hwk hrk HD h3 hr
      go_wp2_with fail
      refine (L4.text17 _ _).mono ?_
      rintro _ w2 ⟨rfl, hb2⟩
      have HL2 := Lib.hid (HL.out.step hb2)
      have HN : Hid (LNF wr.heap.size w2 w2.heap.size 1 (.slice none 0 0) (textC s).l) := lnf_nil _ _ _ _
      have hsz2 := HL2.out.size
      clear hb2 HL c0
      go_wp2_with (at_builtin; go_must (refine wpList_append_lies _ rfl _ _ 36 rfl (w.heap.size + 1) 38 i0 _ 4 56 Tryz.underlying36 hi hz0 hz1 hz2 rfl (by omega) _ D.length (rcells D) rfl ?own ⟨w2.heap.size, 0, none⟩ 1 1 (rowC (textC s, .slice none 0 0)) rfl rfl ?news ?one (by omega) ?c3 ?c4 ?c5 _ rfl ?_))
      case own => exact World.ownsRow.alloc HL2.out.own.row _
      case news =>
        refine World.news_of_block (cs := #[.int .i64 2, .int .i64 0, .string s, .slice none 0 0]) (t := 38) (fr := (0, 0)) ?_
        exact heap_alloc_new w2 (.cells #[.int .i64 2, .int .i64 0, .string s, .slice none 0 0] 38)
      case one => simp [rowC, textC, L4.k_mk, L4.n_mk, L4.s_mk, Value.oneCell']
      case c3 => unfold maxLen; omega
      case c4 => omega
      case c5 => simp; omega
      rintro g c w' ho hg hgl hlt2
      have hgl' : (Value.slice A1 D.length c1).ownBlock = some g ∨ g = w2.heap.size + 1 := by simpa using hgl
      have HE := Lib.hid (append_end HL0.out HL2.out HN.out HWF.out ho hg hgl')
      have HT2 := Lib.hid (HT.out (.slice none 0 0))
      have hDl : (D ++ [(textC s, Value.slice none 0 0)]).length = D.length + 1 := by rw [List.length_append]; rfl
      have HDL := Lib.hid hDl
      clear ho hg hgl hgl' HL2 HL0 HN HT hDl
      go_wp2_with fail
      go_roundw
      case rel => exact ⟨D.length + 1, D ++ [(textC s, Value.slice none 0 0)], by omega, by go_num, HE, HT2, HDL.out⟩
      case measure => simp [intOf]; omega
    · have hkl : D.length = l.length := by omega
      have HM : Hid (D.map (·.1) = l.map textC) := by unfold Hid; rw [HD.out, hkl, List.take_length]
      obtain ⟨dd, hln⟩ := HL.out.own.lnf (Nat.succ_pos _)
      have HC := Lib.hid (L4.list18 (lo := w.heap.size + 1) (D.map (·.1)) _ dd wr hln (by rw [HM.out, cntL_const textC 1 cnt_text]; omega) HL.out.size (Nat.succ_pos _))
      have HB0 := Lib.hid HL.out.row
      have HSZ := Lib.hid HL.out.size
      have HBL := Lib.hid HL.out.old
      clear HD HL HL0 hln hkl
      go_wp2_with fail
      refine HC.out.mono ?_
      rintro _ w3 ⟨A3, n3, cap3, D3, rfl, hl3, hb3⟩
      have HP := Lib.hid ((hb3.block w.heap.size (by have := HSZ.out; omega)).trans HB0.out)
      have HSS := Lib.hid (L4.size_four 3 0 ⟨#[]⟩ A3 n3 cap3)
      have HALL := Lib.hid (L4.all_one 3 0 ⟨#[]⟩ A3 n3 cap3)
      have HE := Lib.hid (ListOf.row (cs := #[.int .i64 3, .int .i64 0, .string ⟨#[]⟩, .slice A3 n3 cap3]) (Nat.le_refl _) (HM.out ▸ hl3) (HBL.out.trans (hb3.mono HBL.out.size)))
      clear hl3 hb3 HB0 HBL HC HM
      go_wp2_with (refine wpList_store_row (P := Tryz.prog) rfl 38 _ _ rfl w.heap.size #[.int .i64 3, .int .i64 0, .string ⟨#[]⟩, .slice A3 n3 cap3] rfl rfl 38 _ HP.out HSS.out rfl HALL.out ?_)
      refine bodyPost_ret (results_cell_row (p := 4) (ty := 38) rfl _ _ w.heap.size 38 #[.int .i64 3, .int .i64 0, .string ⟨#[]⟩, .slice A3 n3 cap3] (0, 0) _ ?hp (setRow_heap _ w.heap.size _ _ 38 (0, 0) HP.out) Tryz.underlying38 rfl (by exact HSS.out)) rfl ?_
      case hp => simp [Act.put]
      exact HE.out
end Go.Proofs.YtjanddnlhaionaaGreatDoor
