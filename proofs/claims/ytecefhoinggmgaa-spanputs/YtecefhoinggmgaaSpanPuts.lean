/-
  Proved: for every input (rows, an integer, an integer, a value), fastilaw02.SpanPuts of the program at this commit returns true and leaves its arguments as they were. No condition.
-/
import Derived.Test.YtecefhoinggmgaaTH
import Derived.Test.YtecefhoinggmgaaV
import Derived.Test.YtecefhoinggmgaaVA
namespace Go.Proofs.Ytecefhoinggmgaa
open Go.ChangeShapes Go.WideShapes Go.ChangeAt Go.RowKit Go.Joins

set_option maxRecDepth 100000 in
theorem spanPuts_lifted (os : Os) (started : os.Started) (H : Type) (enc : TypeId × Value → H) :
    ReturnsInHanded {} Try.checked os 3 .any (Rows.spanPutsSpec.pre6 enc Try.prog Try.f3 Rows.spanPutsRow.domain false) (Rows.spanPutsSpec.post enc Try.prog Try.f3 false true false false) := by
  refine returnsInHanded_of_change (C := Try.checked) Try.own started (by kernel_rfl) Try.func3
    (ChangeSpec.witness6 (enc := enc) (C := Try.checked) false ⟨#[], #[.slice none 0 0, .int .i64 0, .int .i64 0, .agg #[.int .i64 0, .int .i64 0, .string ByteArray.empty]], []⟩ 8 (by kernel_rfl) (by kernel_rfl) (by kernel_rfl) (by kernel_rfl)) ?_
  intro W base args ds gs before hval0 hW hcnd _
  have hval : ∀ (j : Nat) t v, Try.f3.params[j]? = some t → args[j]? = some v → Value.okWide Try.prog W .any base t v := hval0
  have hW' := hW
  obtain ⟨p, q, hA0, hV, rfl, hfz, hnd⟩ := hW
  have hA : DataW.TrodAll enc Try.prog W 0 (fun _ => true) true Try.f3.params.toList args.toList ds p := hA0
  rw [Try.params3] at hA hval
  have hAk := hA
  obtain ⟨a0, vs0, d0, ds0, p0, q0, hargs, rfl, rfl, t0, r100⟩ := trodAll_cons hA
  obtain ⟨a1, vs1, d1, ds1, p1, q1, rfl, rfl, rfl, t1, r101⟩ := trodAll_cons r100
  obtain ⟨a2, vs2, d2, ds2, p2, q2, rfl, rfl, rfl, t2, r102⟩ := trodAll_cons r101
  obtain ⟨a3, vs3, d3, ds3, p3, q3, rfl, rfl, rfl, t3, r103⟩ := trodAll_cons r102
  obtain ⟨rfl, rfl, rfl⟩ := trodAll_nil r103
  have hargs' : args = #[a0, a1, a2, a3] := by cases args; simp_all
  subst hargs'
  obtain ⟨rfl, rfl⟩ := trodVars_none hV
  obtain ⟨l0, h0⟩ := open_rows (okWide_slice Try.underlying22 (hval 0 22 a0 rfl rfl)) t0
  obtain ⟨n1, rfl⟩ := okWide_int Try.underlying3 (hval 1 3 a1 rfl rfl)
  obtain ⟨n2, rfl⟩ := okWide_int Try.underlying3 (hval 2 3 a2 rfl rfl)
  obtain ⟨k3, m3, s3, rfl, rfl, rfl, -, -, -⟩ := open_val (hval 3 25 a3 rfl rfl) t3
  clear hA0 hval0
  simp only [List.append_nil] at hW' hAk ⊢
  have hlt : ∀ x : MemPlace, x ∈ _ → x.block < W.heap.size := fun x hx => hW'.lt x hx
  refine (puts3 l0 n1 n2 (k3, m3, s3) _ W h0).mono fun e W' ⟨he, bel⟩ => ?_
  subst he
  exact ⟨_, rfl, _, _, _, [], _, [], hW', trodAll_mk1 (shut_bool Try.underlying4 _), trodAll_below Try.laidOut bel hAk hlt (by intro t ht; have ht : t ∈ ([22, 3, 3, 25] : List TypeId) := ht; simp only [List.mem_cons, List.not_mem_nil, or_false] at ht; rcases ht with rfl | rfl | rfl | rfl <;> exact ⟨by kernel_rfl, of_decide_eq_true (by kernel_rfl)⟩), rfl, bel.frame _, fun h => by cases h⟩

theorem spanPuts_holds : Rows.SpanPutsSaid :=
  OpenClaim.holds_of_wide 3 Try.f3 rfl rfl rfl rfl rfl rfl rfl ⟨rfl, rfl, rfl, rfl, rfl⟩ rfl rfl rfl rfl rfl (by kernel_rfl) Try.func3 (by kernel_rfl)
    (of_decide_eq_true (by kernel_rfl)) (by unfold Func.isWrapper; rw [if_neg (by decide +kernel)]; exact ⟨rfl, rfl⟩)
    (fun os started H enc _ => spanPuts_lifted os started H enc)
#print axioms spanPuts_holds
end Go.Proofs.Ytecefhoinggmgaa
