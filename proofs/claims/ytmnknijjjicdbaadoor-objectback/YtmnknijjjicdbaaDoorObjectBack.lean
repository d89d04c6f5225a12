/-
  Proved: for every input (an object, a string), fastilaw07.ObjectBack of the program at this commit returns true and leaves its arguments as they were, as a tied card. No condition but the card's own: the two package variables digest.initial and digest.roundKeys hold what their initialisers lay (pruned copy of the project).
-/
import Derived.Test.YtmnknijjjicdbaaDoorPI
import Derived.Test.YtmnknijjjicdbaaDoorPH
import Derived.Test.YtmnknijjjicdbaaDoorL3x1
import Derived.Test.YtmnknijjjicdbaaDoorL2x2
import Derived.Test.YtmnknijjjicdbaaDoorTie
import Derived.Test.YtmnknijjjicdbaaDoorCards
import Derived.SevenTiedAt
namespace Go.Proofs.YtmnknijjjicdbaaDoor
open Go.ChangeShapes Go.WideShapes Go.ChangeAt Go.RowKit Go.Joins

set_option maxRecDepth 100000 in
theorem objectBack_lifted (os : Os) (started : os.Started) (H : Type) (enc : TypeId × Value → H) :
    ReturnsInHanded {} Tryd.checked os 3 .any (fun w args => (Rows.objectBackSpec.pre enc Tryd.prog Tryd.f3 [] false w args ∧ laidMetH Tryd.prog L3.laid2 w) ∧ sizedMet enc Tryd.prog Tryd.f3 (OpenSpec.ofChange Rows.objectBackSpec) false w args)
      (Rows.objectBackSpec.post enc Tryd.prog Tryd.f3 false true false false) := by
  refine returnsInHanded_of_change_and (C := Tryd.checked) (X := fun w _ => laidMetH Tryd.prog L3.laid2 w) (fun _ _ _ hh h => h.of_heap hh) L3.own started (by kernel_rfl) Tryd.func3
    (ChangeSpec.witness_shaped (enc := enc) (C := Tryd.checked) (os := os) (X := fun w _ => laidMetH Tryd.prog L3.laid2 w) false (World.doorLaid Tryd.prog 400 os) #[.agg #[.int .i64 0, .string ByteArray.empty, .slice none 0 0, .slice none 0 0, .slice none 0 0, .int .i64 0, .string ByteArray.empty, .string ByteArray.empty], .string ByteArray.empty] 8 rfl (World.shaped_of_RefB (by kernel_rfl) (by kernel_rfl)) (by kernel_rfl) (by kernel_rfl) (by kernel_rfl) (L3.door_met os _)) ?_
  intro W base args ds gs before hval0 hW _ _ hL _
  have hval : ∀ (j : Nat) t v, Tryd.f3.params[j]? = some t → args[j]? = some v → Value.okWide Tryd.prog W .any base t v := hval0
  have hW' := hW
  obtain ⟨p, q, hA0, hV, rfl, hfz, hnd⟩ := hW
  have hA : DataW.TrodAll enc Tryd.prog W 0 (fun _ => true) true Tryd.f3.params.toList args.toList ds p := hA0
  rw [Tryd.params3] at hA hval
  have hAk := hA
  obtain ⟨a0, vs0, d0, ds0, p0, q0, hargs, rfl, rfl, t0, r100⟩ := trodAll_cons hA
  obtain ⟨a1, vs1, d1, ds1, p1, q1, rfl, rfl, rfl, t1, r101⟩ := trodAll_cons r100
  obtain ⟨rfl, rfl, rfl⟩ := trodAll_nil r101
  have hargs' : args = #[a0, a1] := by cases args; simp_all
  subst hargs'
  obtain ⟨rfl, rfl⟩ := trodVars_none hV
  obtain ⟨kd0, lb0, rw0, ks0, ps0, st0, nt0, rt0, u0, v0, x0, rfl, h0⟩ := open_obj ((okWide_struct Tryd.underlying27 (hval 0 27 a0 rfl rfl)).imp fun _ h => h.1) t0
  obtain ⟨s1, rfl⟩ := okWide_string Tryd.underlying9 (hval 1 9 a1 rfl rfl)
  clear hA0 hval0
  simp only [List.append_nil] at hW' hAk ⊢
  have hlt : ∀ x : MemPlace, x ∈ _ → x.block < W.heap.size := fun x hx => hW'.lt x hx
  refine (back3 L3.keysL L3.initS kd0 lb0 rw0 ks0 ps0 st0 nt0 rt0 u0 v0 x0 s1 W h0 (L3.tabs_of_laid hL)).mono fun e W' ⟨he, bel⟩ => ?_
  subst he
  exact ⟨_, rfl, _, _, _, [], _, [], hW', trodAll_mk1 (shut_bool Tryd.underlying4 _), L2.trodAll_below L2.Tryd.laidOut bel hAk hlt (by intro t ht; have ht : t ∈ ([27, 9] : List TypeId) := ht; simp only [List.mem_cons, List.not_mem_nil, or_false] at ht; rcases ht with rfl | rfl <;> exact ⟨by kernel_rfl, of_decide_eq_true (by kernel_rfl)⟩), rfl, bel.frame _, fun h => by cases h⟩

theorem objectBack_row : Rows.ObjectBackSaid :=
  OpenClaim.holds_of_wide 3 Tryd.f3 rfl rfl rfl rfl rfl rfl rfl ⟨rfl, rfl, rfl, rfl, rfl⟩ rfl rfl rfl rfl rfl (by kernel_rfl) Tryd.func3 (by kernel_rfl)
    (of_decide_eq_true (by kernel_rfl)) (by unfold Func.isWrapper; rw [if_neg (by decide +kernel)]; exact ⟨rfl, rfl⟩)
    (fun os started H enc _ => objectBack_lifted os started H enc)

theorem objectBack_holds : Rows.ObjectBackCardSaid :=
  Claim7.holds_tied_plain_at .later [] [.data, .data] true (true, "e6e4be13313ef0ce35e7c8711118e41e673584ad1a0447b0ae6aa3b8eea10dbd") true
    objectBack_row (fun _ h => by cases h) (by kernel_rfl) (fun _ h => by cases h) objectBack_row_tie rfl ⟨rfl, rfl⟩ (by kernel_rfl) rfl
    (fun f fn hf hfn => by
      obtain rfl : f = 3 := Option.some.inj ((show Tryd.prog.funcNamed "fasti/fastilaw07.ObjectBack" = some 3 by kernel_rfl).symm.trans hf) |>.symm
      obtain rfl : fn = Tryd.f3 := (Option.some.inj (Tryd.func3.symm.trans hfn)).symm
      exact ⟨by kernel_rfl, fun j t ht => by
        rw [Tryd.params3] at ht
        have h3 : t = 27 ∨ t = 9 := by
          have := List.mem_of_getElem? (l := [27, 9]) (i := j) (a := t) (by simpa using ht)
          simpa using this
        rcases h3 with rfl | rfl
        · exact (show Tryd.prog.wantsStandIn 27 = false by kernel_rfl)
        · exact (show Tryd.prog.wantsStandIn 9 = false by kernel_rfl)⟩)
    (by kernel_rfl)
#print axioms objectBack_holds
end Go.Proofs.YtmnknijjjicdbaaDoor
