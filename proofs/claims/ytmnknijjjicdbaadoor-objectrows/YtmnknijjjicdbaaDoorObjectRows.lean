/-
  Proved: for every input (rows, an object), fastilaw07.ObjectRows of the program at this commit returns true and leaves its arguments as they were, as a tied card. No condition but the card's own: the two package variables digest.initial and digest.roundKeys hold what their initialisers lay (pruned copy of the project).
-/
import Derived.Test.YtmnknijjjicdbaaDoorPI
import Derived.Test.YtmnknijjjicdbaaDoorQB
import Derived.Test.YtmnknijjjicdbaaDoorL3x1
import Derived.Test.YtmnknijjjicdbaaDoorL2x2
import Derived.Test.YtmnknijjjicdbaaDoorTie
import Derived.Test.YtmnknijjjicdbaaDoorCards
import Derived.SevenTiedAt
namespace Go.Proofs.YtmnknijjjicdbaaDoor
open Go.ChangeShapes Go.WideShapes Go.ChangeAt Go.RowKit Go.Joins

set_option maxRecDepth 100000 in
theorem objectRows_lifted (os : Os) (started : os.Started) (H : Type) (enc : TypeId × Value → H) :
    ReturnsInHanded {} Tryd.checked os 4 .any (fun w args => (Rows.objectRowsSpec.pre enc Tryd.prog Tryd.f4 [] false w args ∧ laidMetH Tryd.prog L3.laid2 w) ∧ sizedMet enc Tryd.prog Tryd.f4 (OpenSpec.ofChange Rows.objectRowsSpec) false w args)
      (Rows.objectRowsSpec.post enc Tryd.prog Tryd.f4 false true false false) := by
  refine returnsInHanded_of_change_and (C := Tryd.checked) (X := fun w _ => laidMetH Tryd.prog L3.laid2 w) (fun _ _ _ hh h => h.of_heap hh) L3.own started (by kernel_rfl) Tryd.func4
    (ChangeSpec.witness_shaped (enc := enc) (C := Tryd.checked) (os := os) (X := fun w _ => laidMetH Tryd.prog L3.laid2 w) false (World.doorLaid Tryd.prog 400 os) #[.slice none 0 0, .agg #[.int .i64 0, .string ByteArray.empty, .slice none 0 0, .slice none 0 0, .slice none 0 0, .int .i64 0, .string ByteArray.empty, .string ByteArray.empty]] 8 rfl (World.shaped_of_RefB (by kernel_rfl) (by kernel_rfl)) (by kernel_rfl) (by kernel_rfl) (by kernel_rfl) (L3.door_met os _)) ?_
  intro W base args ds gs before hval0 hW _ _ hL _
  have hval : ∀ (j : Nat) t v, Tryd.f4.params[j]? = some t → args[j]? = some v → Value.okWide Tryd.prog W .any base t v := hval0
  have hW' := hW
  obtain ⟨p, q, hA0, hV, rfl, hfz, hnd⟩ := hW
  have hA : DataW.TrodAll enc Tryd.prog W 0 (fun _ => true) true Tryd.f4.params.toList args.toList ds p := hA0
  rw [Tryd.params4] at hA hval
  have hAk := hA
  obtain ⟨a0, vs0, d0, ds0, p0, q0, hargs, rfl, rfl, t0, r100⟩ := trodAll_cons hA
  obtain ⟨a1, vs1, d1, ds1, p1, q1, rfl, rfl, rfl, t1, r101⟩ := trodAll_cons r100
  obtain ⟨rfl, rfl, rfl⟩ := trodAll_nil r101
  have hargs' : args = #[a0, a1] := by cases args; simp_all
  subst hargs'
  obtain ⟨rfl, rfl⟩ := trodVars_none hV
  obtain ⟨l0, h0, n0⟩ := open_rows7 (okWide_slice Tryd.underlying23 (hval 0 23 a0 rfl rfl)) t0
  obtain ⟨kd1, lb1, rw1, ks1, ps1, st1, nt1, rt1, u1, v1, x1, rfl, h1⟩ := open_obj ((okWide_struct Tryd.underlying27 (hval 1 27 a1 rfl rfl)).imp fun _ h => h.1) t1
  clear hA0 hval0
  simp only [List.append_nil] at hW' hAk ⊢
  have hlt : ∀ x : MemPlace, x ∈ _ → x.block < W.heap.size := fun x hx => hW'.lt x hx
  refine (rows4 L3.keysL L3.initS l0 a0 kd1 lb1 rw1 ks1 ps1 st1 nt1 rt1 u1 v1 x1 W h1 h0 n0 (L3.tabs_of_laid hL)).mono fun e W' ⟨he, bel⟩ => ?_
  subst he
  exact ⟨_, rfl, _, _, _, [], _, [], hW', trodAll_mk1 (shut_bool Tryd.underlying4 _), L2.trodAll_below L2.Tryd.laidOut bel hAk hlt (by intro t ht; have ht : t ∈ ([23, 27] : List TypeId) := ht; simp only [List.mem_cons, List.not_mem_nil, or_false] at ht; rcases ht with rfl | rfl <;> exact ⟨by kernel_rfl, of_decide_eq_true (by kernel_rfl)⟩), rfl, bel.frame _, fun h => by cases h⟩

theorem objectRows_row : Rows.ObjectRowsSaid :=
  OpenClaim.holds_of_wide 4 Tryd.f4 rfl rfl rfl rfl rfl rfl rfl ⟨rfl, rfl, rfl, rfl, rfl⟩ rfl rfl rfl rfl rfl (by kernel_rfl) Tryd.func4 (by kernel_rfl)
    (of_decide_eq_true (by kernel_rfl)) (by unfold Func.isWrapper; rw [if_neg (by decide +kernel)]; exact ⟨rfl, rfl⟩)
    (fun os started H enc _ => objectRows_lifted os started H enc)

theorem objectRows_holds : Rows.ObjectRowsCardSaid :=
  Claim7.holds_tied_plain_at .later [] [.data, .data] true (true, "e6e4be13313ef0ce35e7c8711118e41e673584ad1a0447b0ae6aa3b8eea10dbd") true
    objectRows_row (fun _ h => by cases h) (by kernel_rfl) (fun _ h => by cases h) objectRows_row_tie rfl ⟨rfl, rfl⟩ (by kernel_rfl) rfl
    (fun f fn hf hfn => by
      obtain rfl : f = 4 := Option.some.inj ((show Tryd.prog.funcNamed "fasti/fastilaw07.ObjectRows" = some 4 by kernel_rfl).symm.trans hf) |>.symm
      obtain rfl : fn = Tryd.f4 := (Option.some.inj (Tryd.func4.symm.trans hfn)).symm
      exact ⟨by kernel_rfl, fun j t ht => by
        rw [Tryd.params4] at ht
        have h3 : t = 23 ∨ t = 27 := by
          have := List.mem_of_getElem? (l := [23, 27]) (i := j) (a := t) (by simpa using ht)
          simpa using this
        rcases h3 with rfl | rfl
        · exact (show Tryd.prog.wantsStandIn 23 = false by kernel_rfl)
        · exact (show Tryd.prog.wantsStandIn 27 = false by kernel_rfl)⟩)
    (by kernel_rfl)
#print axioms objectRows_holds
end Go.Proofs.YtmnknijjjicdbaaDoor
