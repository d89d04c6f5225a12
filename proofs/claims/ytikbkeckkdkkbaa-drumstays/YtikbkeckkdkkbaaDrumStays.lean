/-
  Proved: for every input (calls, calls, integers), fastilaw05.DrumStays of the program at this commit returns true and leaves its arguments as they were. No condition.
-/
import Derived.Test.YtikbkeckkdkkbaaTE
import Derived.Test.YtikbkeckkdkkbaaV
namespace Go.Proofs.Ytikbkeckkdkkbaa
open Go.ChangeShapes Go.WideShapes Go.ChangeAt Go.RowKit Go.Joins

set_option maxRecDepth 100000 in
theorem drumStays_lifted (os : Os) (started : os.Started) (H : Type) (enc : TypeId × Value → H) :
    ReturnsInHanded {} Try.checked os 4 .any (Rows.drumStaysSpec.pre6 enc Try.prog Try.f4 Rows.drumStaysRow.domain false) (Rows.drumStaysSpec.post enc Try.prog Try.f4 false true false false) := by
  refine returnsInHanded_of_change (C := Try.checked) Try.own started (by kernel_rfl) Try.func4
    (ChangeSpec.witness6 (enc := enc) (C := Try.checked) false ⟨#[], #[.slice none 0 0, .slice none 0 0, .slice none 0 0], []⟩ 8 (by kernel_rfl) (by kernel_rfl) (by kernel_rfl) (by kernel_rfl)) ?_
  intro W base args ds gs before hval0 hW hcnd _
  have hval : ∀ (j : Nat) t v, Try.f4.params[j]? = some t → args[j]? = some v → Value.okWide Try.prog W .any base t v := hval0
  have hW' := hW
  obtain ⟨p, q, hA0, hV, rfl, hfz, hnd⟩ := hW
  have hA : DataW.TrodAll enc Try.prog W 0 (fun _ => true) true Try.f4.params.toList args.toList ds p := hA0
  rw [Try.params4] at hA hval
  have hAk := hA
  obtain ⟨a0, vs0, d0, ds0, p0, q0, hargs, rfl, rfl, t0, r100⟩ := trodAll_cons hA
  obtain ⟨a1, vs1, d1, ds1, p1, q1, rfl, rfl, rfl, t1, r101⟩ := trodAll_cons r100
  obtain ⟨a2, vs2, d2, ds2, p2, q2, rfl, rfl, rfl, t2, r102⟩ := trodAll_cons r101
  obtain ⟨rfl, rfl, rfl⟩ := trodAll_nil r102
  have hargs' : args = #[a0, a1, a2] := by cases args; simp_all
  subst hargs'
  obtain ⟨rfl, rfl⟩ := trodVars_none hV
  obtain ⟨l0, h0⟩ := open_acts (okWide_slice Try.underlying22 (hval 0 22 a0 rfl rfl)) t0
  obtain ⟨l1, h1⟩ := open_acts (okWide_slice Try.underlying22 (hval 1 22 a1 rfl rfl)) t1
  obtain ⟨l2, h2⟩ := open_ints (okWide_slice Try.underlying35 (hval 2 35 a2 rfl rfl)) t2
  clear hA0 hval0
  simp only [List.append_nil] at hW' hAk ⊢
  have hlt : ∀ x : MemPlace, x ∈ _ → x.block < W.heap.size := fun x hx => hW'.lt x hx
  refine (stays4 l0 l1 l2 _ _ _ W h0 h1 h2).mono fun e W' ⟨he, bel⟩ => ?_
  subst he
  exact ⟨_, rfl, _, _, _, [], _, [], hW', trodAll_mk1 (shut_bool Try.underlying4 _), trodAll_below Try.laidOut bel hAk hlt (by intro t ht; have ht : t ∈ ([22, 22, 35] : List TypeId) := ht; simp only [List.mem_cons, List.not_mem_nil, or_false] at ht; rcases ht with rfl | rfl | rfl <;> exact ⟨by kernel_rfl, of_decide_eq_true (by kernel_rfl)⟩), rfl, bel.frame _, fun h => by cases h⟩

theorem drumStays_holds : Rows.DrumStaysSaid :=
  OpenClaim.holds_of_wide 4 Try.f4 rfl rfl rfl rfl rfl rfl rfl ⟨rfl, rfl, rfl, rfl, rfl⟩ rfl rfl rfl rfl rfl (by kernel_rfl) Try.func4 (by kernel_rfl)
    (of_decide_eq_true (by kernel_rfl)) (by unfold Func.isWrapper; rw [if_neg (by decide +kernel)]; exact ⟨rfl, rfl⟩)
    (fun os started H enc _ => drumStays_lifted os started H enc)
#print axioms drumStays_holds
end Go.Proofs.Ytikbkeckkdkkbaa
