/-
  Proved: for every input (an object, a string, a bool), fastilaw08.ShelfNil of the program at this commit returns true and leaves its arguments as they were, as a tied card. No condition but the card's own: the package variables digest.initial and digest.roundKeys, and Go's own utf8.acceptRanges and utf8.first, hold what their initialisers lay (pruned copy of the project).
-/
import Derived.Test.YtjanddnlhaionaaGreatDoorPx0
import Derived.Test.YtjanddnlhaionaaGreatDoorSP
import Derived.Test.YtjanddnlhaionaaGreatDoorSQ
import Derived.Test.YtjanddnlhaionaaGreatDoorL2x2
import Derived.Test.YtjanddnlhaionaaGreatDoorTie
import Derived.Test.YtjanddnlhaionaaGreatDoorCards
import Derived.SevenTiedAt
set_option maxRecDepth 100000
namespace Go.Proofs.YtjanddnlhaionaaGreatDoor
open Go.ChangeShapes Go.WideShapes Go.ChangeAt Go.RowKit Go.Joins

theorem shelfNil_lifted (os : Os) (started : os.Started) (H : Type) (enc : TypeId × Value → H) :
    ReturnsInHanded {} Tryz.checked os 8 .any (fun w args => (Rows.shelfNilSpec.pre enc Tryz.prog Tryz.f8 [] false w args ∧ laidMetH Tryz.prog laid4 w) ∧ sizedMet enc Tryz.prog Tryz.f8 (OpenSpec.ofChange Rows.shelfNilSpec) false w args)
      (Rows.shelfNilSpec.post enc Tryz.prog Tryz.f8 false true false false) := by
  refine returnsInHanded_of_change_and (C := Tryz.checked) (X := fun w _ => laidMetH Tryz.prog laid4 w) (fun _ _ _ hh h => h.of_heap hh) L3.own started (by kernel_rfl) Tryz.func8
    (ChangeSpec.witness_shaped (enc := enc) (C := Tryz.checked) (os := os) (X := fun w _ => laidMetH Tryz.prog laid4 w) false (World.laidAll Tryz.prog os laid4) #[.agg #[.int .i64 0, .string ByteArray.empty, .slice none 0 0, .slice none 0 0, .slice none 0 0, .int .i64 0, .string ByteArray.empty, .string ByteArray.empty], .string ByteArray.empty, .bool false] 8 (World.laidAll_os _ _ _) (World.shaped_of_ZipB (by kernel_rfl) (by kernel_rfl)) (by kernel_rfl) (by kernel_rfl) (by kernel_rfl) laid4_met) ?_
  intro W base args ds gs before hval0 hW _ _ hL _
  have hval : ∀ (j : Nat) t v, Tryz.f8.params[j]? = some t → args[j]? = some v → Value.okWide Tryz.prog W .any base t v := hval0
  have hW' := hW
  obtain ⟨p, q, hA0, hV, rfl, hfz, hnd⟩ := hW
  have hA : DataW.TrodAll enc Tryz.prog W 0 (fun _ => true) true Tryz.f8.params.toList args.toList ds p := hA0
  rw [Tryz.params8] at hA hval
  have hAk := hA
  obtain ⟨a0, vs0, d0, ds0, p0, q0, hargs, rfl, rfl, t0, r100⟩ := trodAll_cons hA
  obtain ⟨a1, vs1, d1, ds1, p1, q1, rfl, rfl, rfl, t1, r101⟩ := trodAll_cons r100
  obtain ⟨a2, vs2, d2, ds2, p2, q2, rfl, rfl, rfl, t2, r102⟩ := trodAll_cons r101
  obtain ⟨rfl, rfl, rfl⟩ := trodAll_nil r102
  have hargs' : args = #[a0, a1, a2] := by cases args; simp_all
  subst hargs'
  obtain ⟨rfl, rfl⟩ := trodVars_none hV
  obtain ⟨kd0, lb0, rw0, ks0, ps0, st0, nt0, rt0, u0, v0, x0, rfl, h0⟩ := open_obj ((okWide_struct Tryz.underlying27 (hval 0 27 a0 rfl rfl)).imp fun _ h => h.1) t0
  obtain ⟨s1, rfl⟩ := okWide_string Tryz.underlying9 (hval 1 9 a1 rfl rfl)
  obtain ⟨b2, rfl⟩ := okWide_bool Tryz.underlying4 (hval 2 4 a2 rfl rfl)
  clear hA0 hval0
  simp only [List.append_nil] at hW' hAk ⊢
  have hlt : ∀ x : MemPlace, x ∈ _ → x.block < W.heap.size := fun x hx => hW'.lt x hx
  refine (nil8 L3.keysL L3.initS kd0 lb0 rw0 ks0 ps0 st0 nt0 rt0 u0 v0 x0 s1 b2 W h0 (tabs_of_laid4 hL)).mono fun e W' ⟨he, bel⟩ => ?_
  subst he
  exact ⟨_, rfl, _, _, _, [], _, [], hW', trodAll_mk1 (shut_bool Tryz.underlying4 _), L2.trodAll_below L2.Tryz.laidOut bel hAk hlt (by intro t ht; have ht : t ∈ ([27, 9, 4] : List TypeId) := ht; simp only [List.mem_cons, List.not_mem_nil, or_false] at ht; rcases ht with rfl | rfl | rfl <;> exact ⟨by kernel_rfl, of_decide_eq_true (by kernel_rfl)⟩), rfl, bel.frame _, fun h => by cases h⟩

theorem shelfNil_row : Rows.ShelfNilSaid :=
  OpenClaim.holds_of_wide 8 Tryz.f8 rfl rfl rfl rfl rfl rfl rfl ⟨rfl, rfl, rfl, rfl, rfl⟩ rfl rfl rfl rfl rfl (by kernel_rfl) Tryz.func8 (by kernel_rfl)
    (of_decide_eq_true (by kernel_rfl)) (by unfold Func.isWrapper; rw [if_neg (by decide +kernel)]; exact ⟨rfl, rfl⟩)
    (fun os started H enc _ => shelfNil_lifted os started H enc)

theorem shelfNil_holds : Rows.ShelfNilCardSaid :=
  Claim7.holds_tied_plain_at .later [] [.data, .data, .data, .pinned] true (true, "a909c6481b4db51c831398665f1bb55332ce0692f340a920a34fae66d93adc54") true
    shelfNil_row (fun _ h => by cases h) (by kernel_rfl) (fun _ h => by cases h) shelfNil_row_tie rfl ⟨rfl, rfl⟩ (by kernel_rfl) rfl
    (fun f fn hf hfn => by
      obtain rfl : f = 8 := Option.some.inj ((show Tryz.prog.funcNamed "fasti/fastilaw08.ShelfNil" = some 8 by kernel_rfl).symm.trans hf) |>.symm
      obtain rfl : fn = Tryz.f8 := (Option.some.inj (Tryz.func8.symm.trans hfn)).symm
      exact ⟨by kernel_rfl, fun j t ht => by
        rw [Tryz.params8] at ht
        have h3 : t = 27 ∨ t = 9 ∨ t = 4 := by
          have := List.mem_of_getElem? (l := [27, 9, 4]) (i := j) (a := t) (by simpa using ht)
          simpa using this
        rcases h3 with rfl | rfl | rfl
        · exact (show Tryz.prog.wantsStandIn 27 = false by kernel_rfl)
        · exact (show Tryz.prog.wantsStandIn 9 = false by kernel_rfl)
        · exact (show Tryz.prog.wantsStandIn 4 = false by kernel_rfl)⟩)
    (by kernel_rfl)
#print axioms shelfNil_holds
end Go.Proofs.YtjanddnlhaionaaGreatDoor
