/-
  The contracts of Next's deferred function, of Next and of Take. No condition but bounds on lengths.
-/
import Derived.Test.YtdmalkkpcggifaaM
import Derived.Defers
import Derived.Recover
namespace Go.Proofs.Ytdmalkkpcggifaa
open Go.RowKit

theorem as59 (a b : Int) (w : World) : (Instr.typeAssert (.iface 59 (.agg #[.int .i64 a, .int .i64 b])) 20 59 true).run Try.prog w = .ok (.tuple #[.agg #[.int .i64 a, .int .i64 b], .bool true]) w := by kernel_rfl
theorem asNil (w : World) : (Instr.typeAssert .nilIface 20 59 true).run Try.prog w = .ok (.tuple #[.agg #[.int .i64 0, .int .i64 0], .bool false]) w := by kernel_rfl

theorem catch_idle (p q r : Addr) (w : World) :
    CallsD Try.prog 30 #[.pointer (some p), .pointer (some q), .pointer (some r)] .returning w fun e u' w' => e = .returned (.tuple #[]) ∧ u' = .returning ∧ Below w.heap.size w w' := by
  refine callsD_of_wpS Try.func30 rfl fun c₀ cs hu => ?_
  have hn := asNil
  apply wpS_seq
  apply wpS_region
  simp [wpOpsS, go_sem, recoverD, hu, Try.ntmps30, Exit.thenS, hn]
  apply wpS_seq
  apply wpS_region
  simp [wpOpsS, go_sem, Exit.thenS]
  refine wpS_cond (t := false) (by simp [Act.eval, Array.replicate]) ?_
  simp only [Bool.false_eq_true, if_false]
  refine wpS_of_wp (wp_skip ?_)
  cases c₀
  simp_all [bodyPostS, results, Try.results30]
  exact (Below.refl _ w).alloc (Nat.le_refl _) _

theorem set_row {w : World} {g : Nat} {cs : Array Value} {ty : TypeId} (h : w.heap[g]? = some (.cells cs ty (0, 0))) (j : Nat) (v : Value) : (w.setCell ⟨g, j, none⟩ v).heap[g]? = some (.cells (cs.setIfInBounds j v) ty (0, 0)) := by
  simp only [World.setCell, Array.getElem?_modify, h]
  simp

theorem six_sets (P Q S : Nat) (w : World) (x0 x1 x2 x3 y0 z0 v0 v1 v2 v3 v4 v5 : Value) (h0 : w.heap[P]? = some (.cells #[x0, x1, x2, x3] 25 (0, 0))) (h1 : w.heap[Q]? = some (.cells #[y0] 3 (0, 0))) (h2 : w.heap[S]? = some (.cells #[z0] 28 (0, 0))) (hPQ : P < Q) (hQS : Q < S) :
    Below P w ((((((w.setCell ⟨P, 0, none⟩ v0).setCell ⟨P, 1, none⟩ v1).setCell ⟨P, 2, none⟩ v2).setCell ⟨P, 3, none⟩ v3).setCell ⟨Q, 0, none⟩ v4).setCell ⟨S, 0, none⟩ v5).drew ∧
    ((((((w.setCell ⟨P, 0, none⟩ v0).setCell ⟨P, 1, none⟩ v1).setCell ⟨P, 2, none⟩ v2).setCell ⟨P, 3, none⟩ v3).setCell ⟨Q, 0, none⟩ v4).setCell ⟨S, 0, none⟩ v5).drew.heap[P]? = some (.cells #[v0, v1, v2, v3] 25 (0, 0)) ∧
    ((((((w.setCell ⟨P, 0, none⟩ v0).setCell ⟨P, 1, none⟩ v1).setCell ⟨P, 2, none⟩ v2).setCell ⟨P, 3, none⟩ v3).setCell ⟨Q, 0, none⟩ v4).setCell ⟨S, 0, none⟩ v5).drew.heap[Q]? = some (.cells #[v4] 3 (0, 0)) ∧
    ((((((w.setCell ⟨P, 0, none⟩ v0).setCell ⟨P, 1, none⟩ v1).setCell ⟨P, 2, none⟩ v2).setCell ⟨P, 3, none⟩ v3).setCell ⟨Q, 0, none⟩ v4).setCell ⟨S, 0, none⟩ v5).drew.heap[S]? = some (.cells #[v5] 28 (0, 0)) := by
  have a0 := set_row (set_row (set_row (set_row h0 0 v0) 1 v1) 2 v2) 3 v3
  have a1 : ((((w.setCell ⟨P, 0, none⟩ v0).setCell ⟨P, 1, none⟩ v1).setCell ⟨P, 2, none⟩ v2).setCell ⟨P, 3, none⟩ v3).heap[Q]? = some (.cells #[y0] 3 (0, 0)) := by
    rw [Below.heap_setCell _ ⟨P, 3, none⟩ _ Q (by simp only; omega), Below.heap_setCell _ ⟨P, 2, none⟩ _ Q (by simp only; omega), Below.heap_setCell _ ⟨P, 1, none⟩ _ Q (by simp only; omega), Below.heap_setCell _ ⟨P, 0, none⟩ _ Q (by simp only; omega)]
    exact h1
  have a2 : ((((w.setCell ⟨P, 0, none⟩ v0).setCell ⟨P, 1, none⟩ v1).setCell ⟨P, 2, none⟩ v2).setCell ⟨P, 3, none⟩ v3).heap[S]? = some (.cells #[z0] 28 (0, 0)) := by
    rw [Below.heap_setCell _ ⟨P, 3, none⟩ _ S (by simp only; omega), Below.heap_setCell _ ⟨P, 2, none⟩ _ S (by simp only; omega), Below.heap_setCell _ ⟨P, 1, none⟩ _ S (by simp only; omega), Below.heap_setCell _ ⟨P, 0, none⟩ _ S (by simp only; omega)]
    exact h2
  have hb : Below P w ((((w.setCell ⟨P, 0, none⟩ v0).setCell ⟨P, 1, none⟩ v1).setCell ⟨P, 2, none⟩ v2).setCell ⟨P, 3, none⟩ v3) :=
    ((((Below.refl P w).setCell (p := ⟨P, 0, none⟩) (Nat.le_refl _) _).setCell (p := ⟨P, 1, none⟩) (Nat.le_refl _) _).setCell (p := ⟨P, 2, none⟩) (Nat.le_refl _) _).setCell (p := ⟨P, 3, none⟩) (Nat.le_refl _) _
  generalize (((w.setCell ⟨P, 0, none⟩ v0).setCell ⟨P, 1, none⟩ v1).setCell ⟨P, 2, none⟩ v2).setCell ⟨P, 3, none⟩ v3 = W at a0 a1 a2 hb
  refine ⟨((hb.setCell (p := ⟨Q, 0, none⟩) (Nat.le_of_lt hPQ) _).setCell (p := ⟨S, 0, none⟩) (by simp only; omega) _).drew, ?_, ?_, ?_⟩
  · show ((W.setCell ⟨Q, 0, none⟩ v4).setCell ⟨S, 0, none⟩ v5).heap[P]? = _
    rw [Below.heap_setCell _ ⟨S, 0, none⟩ _ P (by simp only; omega), Below.heap_setCell _ ⟨Q, 0, none⟩ _ P (by simp only; omega), a0]
    rfl
  · show ((W.setCell ⟨Q, 0, none⟩ v4).setCell ⟨S, 0, none⟩ v5).heap[Q]? = _
    rw [Below.heap_setCell _ ⟨S, 0, none⟩ _ Q (by simp only; omega), set_row a1 0 v4]
    rfl
  · have a3 : (W.setCell ⟨Q, 0, none⟩ v4).heap[S]? = some (.cells #[z0] 28 (0, 0)) := by
      rw [Below.heap_setCell _ ⟨Q, 0, none⟩ _ S (by simp only; omega)]
      exact a2
    show ((W.setCell ⟨Q, 0, none⟩ v4).setCell ⟨S, 0, none⟩ v5).heap[S]? = _
    rw [set_row a3 0 v5]
    rfl

set_option maxHeartbeats 1000000 in
theorem catch_walk (P Q S F : Nat) (a b : Int) (w : World) (x0 x1 x2 x3 y0 z0 : Value) (h0 : w.heap[P]? = some (.cells #[x0, x1, x2, x3] 25 (0, 0))) (h1 : w.heap[Q]? = some (.cells #[y0] 3 (0, 0))) (h2 : w.heap[S]? = some (.cells #[z0] 28 (0, 0)))
    (hF : w.heap[F]? = some (.cells #[.int .i64 a, .int .i64 b] 59 (0, 0))) (hPQ : P < Q) (hQS : Q < S) (hSF : S < F) (t4 t5 t6 t7 t8 t9 t10 : Value) (K : Exit → Act → World → Prop)
    (hK : ∀ tm w', Below P w w' → w'.heap[P]? = some (.cells #[.int .i64 0, .int .i64 0, .string ⟨#[]⟩, .slice none 0 0] 25 (0, 0)) → w'.heap[Q]? = some (.cells #[.int .i64 a] 3 (0, 0)) → w'.heap[S]? = some (.cells #[.int .i64 b] 28 (0, 0)) → K .normal { tmps := tm, defers := [] } w') :
    Code.wp Try.prog (Code.region 2 (match Try.f30.body with | some (.seq _ (.seq _ (.cond _ (.region _ o _) _))) => o | _ => #[]) true) K { tmps := #[.pointer (some ⟨P, 0, none⟩), .pointer (some ⟨Q, 0, none⟩), .pointer (some ⟨S, 0, none⟩), .pointer (some ⟨F, 0, none⟩), t4, t5, t6, t7, t8, t9, t10, undef, undef, undef, undef, undef], defers := [] } w := by
  unfold Try.f30
  simp only []
  have HK := Lib.hid hK
  clear hK
  have f0 : w.cell? ⟨F, 0, none⟩ = some (.int .i64 a) := cell_of_row w F 0 _ 59 (0, 0) hF
  have f1 : w.cell? ⟨F, 1, none⟩ = some (.int .i64 b) := cell_of_row w F 1 _ 59 (0, 0) hF
  have p0 : w.cell? ⟨P, 0, none⟩ = some x0 := cell_of_row w P 0 _ 25 (0, 0) h0
  have p1 : w.cell? ⟨P, 1, none⟩ = some x1 := cell_of_row w P 1 _ 25 (0, 0) h0
  have p2 : w.cell? ⟨P, 2, none⟩ = some x2 := cell_of_row w P 2 _ 25 (0, 0) h0
  have p3 : w.cell? ⟨P, 3, none⟩ = some x3 := cell_of_row w P 3 _ 25 (0, 0) h0
  have q0 : w.cell? ⟨Q, 0, none⟩ = some y0 := cell_of_row w Q 0 _ 3 (0, 0) h1
  have s0 : w.cell? ⟨S, 0, none⟩ = some z0 := cell_of_row w S 0 _ 28 (0, 0) h2
  have zp : ∀ j, w.frozen? ⟨P, j, none⟩ = false := fun j => by simp [World.frozen?, h0]
  have zq : ∀ j, w.frozen? ⟨Q, j, none⟩ = false := fun j => by simp [World.frozen?, h1]
  have zs : ∀ j, w.frozen? ⟨S, j, none⟩ = false := fun j => by simp [World.frozen?, h2]
  have H0 := Lib.hid h0
  have H1 := Lib.hid h1
  have H2 := Lib.hid h2
  have n1 : ¬ P = F := by omega
  have n2 : ¬ Q = F := by omega
  have n3 : ¬ S = F := by omega
  have n4 : ¬ P = Q := by omega
  have n5 : ¬ Q = S := by omega
  have n6 : ¬ P = S := by omega
  clear h0 h1 h2 hF
  go_region
  obtain ⟨r0, r1, r2, r3⟩ := six_sets P Q S w x0 x1 x2 x3 y0 z0 (.int .i64 0) (.int .i64 0) (.string ⟨#[]⟩) (.slice none 0 0) (.int .i64 a) (.int .i64 b) H0.out H1.out H2.out hPQ hQS
  exact HK.out _ _ r0 r1 r2 r3

theorem catch_walk' (P Q S F : Nat) (a b : Int) (w : World) (x0 x1 x2 x3 y0 z0 : Value) (ops : Array Oper) (hops : (match Try.f30.body with | some (.seq _ (.seq _ (.cond _ (.region _ o _) _))) => o | _ => #[]) = ops) (tm0 : Array Value) (t4 t5 t6 t7 t8 t9 t10 : Value)
    (htm : tm0 = #[.pointer (some ⟨P, 0, none⟩), .pointer (some ⟨Q, 0, none⟩), .pointer (some ⟨S, 0, none⟩), .pointer (some ⟨F, 0, none⟩), t4, t5, t6, t7, t8, t9, t10, undef, undef, undef, undef, undef]) (h0 : w.heap[P]? = some (.cells #[x0, x1, x2, x3] 25 (0, 0))) (h1 : w.heap[Q]? = some (.cells #[y0] 3 (0, 0))) (h2 : w.heap[S]? = some (.cells #[z0] 28 (0, 0)))
    (hF : w.heap[F]? = some (.cells #[.int .i64 a, .int .i64 b] 59 (0, 0))) (hPQ : P < Q) (hQS : Q < S) (hSF : S < F) (K : Exit → Act → World → Prop)
    (hK : ∀ tm w', Below P w w' → w'.heap[P]? = some (.cells #[.int .i64 0, .int .i64 0, .string ⟨#[]⟩, .slice none 0 0] 25 (0, 0)) → w'.heap[Q]? = some (.cells #[.int .i64 a] 3 (0, 0)) → w'.heap[S]? = some (.cells #[.int .i64 b] 28 (0, 0)) → K .normal { tmps := tm, defers := [] } w') :
    Code.wp Try.prog (Code.region 2 ops true) K { tmps := tm0, defers := [] } w := by
  subst htm hops
  exact catch_walk P Q S F a b w x0 x1 x2 x3 y0 z0 h0 h1 h2 hF hPQ hQS hSF t4 t5 t6 t7 t8 t9 t10 K hK

set_option maxHeartbeats 1000000 in
theorem catch_panicking (P Q S : Nat) (a b : Int) (older : List PanicEntry) (w : World) (x0 x1 x2 x3 y0 z0 : Value) (h0 : w.heap[P]? = some (.cells #[x0, x1, x2, x3] 25 (0, 0))) (h1 : w.heap[Q]? = some (.cells #[y0] 3 (0, 0))) (h2 : w.heap[S]? = some (.cells #[z0] 28 (0, 0)))
    (hPQ : P < Q) (hQS : Q < S) :
    CallsD Try.prog 30 #[.pointer (some ⟨P, 0, none⟩), .pointer (some ⟨Q, 0, none⟩), .pointer (some ⟨S, 0, none⟩)] (.panicking ({ v := failV a b, recovered := false } :: older)) w fun e u' w' =>
      e = .returned (.tuple #[]) ∧ u' = .panicking ({ v := failV a b, recovered := true } :: older) ∧ Below P w w' ∧
      w'.heap[P]? = some (.cells #[.int .i64 0, .int .i64 0, .string ⟨#[]⟩, .slice none 0 0] 25 (0, 0)) ∧ w'.heap[Q]? = some (.cells #[.int .i64 a] 3 (0, 0)) ∧ w'.heap[S]? = some (.cells #[.int .i64 b] 28 (0, 0)) := by
  refine callsD_of_wpS Try.func30 rfl fun c₀ cs hu => ?_
  have hn := as59 a b
  apply wpS_seq
  apply wpS_region
  simp [wpOpsS, go_sem, recoverD, hu, Try.ntmps30, Exit.thenS, failV, hn]
  apply wpS_seq
  apply wpS_region
  simp [wpOpsS, go_sem, Exit.thenS]
  refine wpS_cond (t := true) (by simp [Act.eval, Array.replicate]) ?_
  simp only [if_true]
  refine wpS_of_wp ?_
  have hS := (Array.getElem?_eq_some_iff.1 h2).1
  refine catch_walk' P Q S w.heap.size a b _ x0 x1 x2 x3 y0 z0 _ ?hops _ (.bool true) (.tuple #[.agg #[.int .i64 a, .int .i64 b], .bool true]) (.iface 59 (.agg #[.int .i64 a, .int .i64 b])) (.tuple #[.agg #[.int .i64 a, .int .i64 b], .bool true]) (.agg #[.int .i64 a, .int .i64 b]) (.bool true) (.bool true) ?htm ?_ ?_ ?_ ?_ hPQ hQS hS _ ?_
  case hops => kernel_rfl
  case htm => kernel_rfl
  · rw [Below.heap_alloc _ _ _ (by omega)]; exact h0
  · rw [Below.heap_alloc _ _ _ (by omega)]; exact h1
  · rw [Below.heap_alloc _ _ _ hS]; exact h2
  · exact heap_alloc_new w _
  · intro tm w' hb g0 g1 g2
    exact ⟨rfl, _, rfl, _, by simp [results, Try.results30], rfl, rfl, ((Below.refl P w).alloc (by omega) _).trans hb, g0, g1, g2⟩
end Go.Proofs.Ytdmalkkpcggifaa
