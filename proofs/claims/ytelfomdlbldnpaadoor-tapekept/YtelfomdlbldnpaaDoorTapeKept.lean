/-
  Proved: for every input (an integer, calls), fastilaw06.TapeKept of the program at this commit returns true and leaves its arguments as they were, as a tied card. No condition but the card's own: the two package variables unicode/utf8.acceptRanges and unicode/utf8.first (of Go's library) hold what their initialisers lay (pruned copy of the project).
-/
import Derived.Test.YtelfomdlbldnpaaDoorZF
import Derived.Test.YtelfomdlbldnpaaDoorW
import Derived.Test.YtelfomdlbldnpaaDoorZG
import Derived.Test.YtelfomdlbldnpaaDoorTie
import Derived.Test.YtelfomdlbldnpaaDoorCards
import Derived.SevenTiedAt
namespace Go.Proofs.YtelfomdlbldnpaaDoor
open Go.ChangeShapes Go.WideShapes Go.ChangeAt Go.RowKit Go.Joins

set_option maxRecDepth 100000 in
theorem tapeKept_lifted (os : Os) (started : os.Started) (H : Type) (enc : TypeId × Value → H) :
    ReturnsInHanded {} Tryd.checked os 4 .any (fun w args => (Rows.tapeKeptSpec.pre enc Tryd.prog Tryd.f4 [] false w args ∧ laidMetH Tryd.prog laid2 w) ∧ sizedMet enc Tryd.prog Tryd.f4 (OpenSpec.ofChange Rows.tapeKeptSpec) false w args)
      (Rows.tapeKeptSpec.post enc Tryd.prog Tryd.f4 false true false false) := by
  refine returnsInHanded_of_change_and (C := Tryd.checked) (X := fun w _ => laidMetH Tryd.prog laid2 w) (fun _ _ _ hh h => h.of_heap hh) own started (by kernel_rfl) Tryd.func4
    (ChangeSpec.witness_shaped (enc := enc) (C := Tryd.checked) (os := os) (X := fun w _ => laidMetH Tryd.prog laid2 w) false (World.laidAll Tryd.prog os laid2) #[.int .i64 0, .slice none 0 0] 8 (World.laidAll_os _ _ _)
      (World.shaped_of_ZipB (by kernel_rfl) (by kernel_rfl)) (by kernel_rfl) (by kernel_rfl) (by kernel_rfl) laid_met) ?_
  intro W base args ds gs before hval0 hW _ _ hL _
  have hval : ∀ (j : Nat) t v, Tryd.f4.params[j]? = some t → args[j]? = some v → Value.okWide Tryd.prog W .any base t v := hval0
  have hW' := hW
  obtain ⟨p, q, hA0, hV, rfl, hfz, hnd⟩ := hW
  have hA : DataW.TrodAll enc Tryd.prog W 0 (fun _ => true) true Tryd.f4.params.toList args.toList ds p := hA0
  rw [Tryd.params4] at hA hval
  have hAk := hA
  obtain ⟨a0, vs0, d0, ds0, p0, q0, hargs, rfl, rfl, t0, r100⟩ := trodAll_cons hA
  obtain ⟨a1, vs1, d1, ds1, p1, q1, rfl, rfl, rfl, t1, r101⟩ := trodAll_cons r100
  obtain ⟨rfl, rfl, rfl⟩ := trodAll_nil r101
  have hargs' : args = #[a0, a1] := by cases args; simp_all
  subst hargs'
  obtain ⟨rfl, rfl⟩ := trodVars_none hV
  obtain ⟨n0, rfl⟩ := okWide_int Tryd.underlying3 (hval 0 3 a0 rfl rfl)
  obtain ⟨l1, h1⟩ := open_acts (okWide_slice Tryd.underlying22 (hval 1 22 a1 rfl rfl)) t1
  clear hA0 hval0
  simp only [List.append_nil] at hW' hAk ⊢
  have hlt : ∀ x : MemPlace, x ∈ _ → x.block < W.heap.size := fun x hx => hW'.lt x hx
  refine (kept4 n0 l1 _ W h1).mono fun e W' ⟨he, bel⟩ => ?_
  subst he
  exact ⟨_, rfl, _, _, _, [], _, [], hW', trodAll_mk1 (shut_bool Tryd.underlying4 _), trodAll_below Tryd.laidOut bel hAk hlt (by intro t ht; have ht : t ∈ ([3, 22] : List TypeId) := ht; simp only [List.mem_cons, List.not_mem_nil, or_false] at ht; rcases ht with rfl | rfl <;> exact ⟨by kernel_rfl, of_decide_eq_true (by kernel_rfl)⟩), rfl, bel.frame _, fun h => by cases h⟩

theorem tapeKept_row : Rows.TapeKeptSaid :=
  OpenClaim.holds_of_wide 4 Tryd.f4 rfl rfl rfl rfl rfl rfl rfl ⟨rfl, rfl, rfl, rfl, rfl⟩ rfl rfl rfl rfl rfl (by kernel_rfl) Tryd.func4 (by kernel_rfl)
    (of_decide_eq_true (by kernel_rfl)) (by unfold Func.isWrapper; rw [if_neg (by decide +kernel)]; exact ⟨rfl, rfl⟩)
    (fun os started H enc _ => tapeKept_lifted os started H enc)

theorem tapeKept_holds : Rows.TapeKeptCardSaid :=
  Claim7.holds_tied_plain_at .later [] [.data, .pinned] true (true, "b6e8b7edbca541c9491729e53834467c07f5d5518210ce5856c29fdaf465f0e2") false
    tapeKept_row (fun _ h => by cases h) (by kernel_rfl) (fun _ h => by cases h) tapeKept_row_tie rfl ⟨rfl, rfl⟩ (by kernel_rfl) rfl
    (fun f fn hf hfn => by
      obtain rfl : f = 4 := Option.some.inj ((show Tryd.prog.funcNamed "fasti/fastilaw06.TapeKept" = some 4 by kernel_rfl).symm.trans hf) |>.symm
      obtain rfl : fn = Tryd.f4 := (Option.some.inj (Tryd.func4.symm.trans hfn)).symm
      exact ⟨by kernel_rfl, fun j t ht => by
        rw [Tryd.params4] at ht
        have h3 : t = 3 ∨ t = 22 := by
          have := List.mem_of_getElem? (l := [3, 22]) (i := j) (a := t) (by simpa using ht)
          simpa using this
        rcases h3 with rfl | rfl
        · exact (show Tryd.prog.wantsStandIn 3 = false by kernel_rfl)
        · exact (show Tryd.prog.wantsStandIn 22 = false by kernel_rfl)⟩)
    (by kernel_rfl)
#print axioms tapeKept_holds
end Go.Proofs.YtelfomdlbldnpaaDoor
