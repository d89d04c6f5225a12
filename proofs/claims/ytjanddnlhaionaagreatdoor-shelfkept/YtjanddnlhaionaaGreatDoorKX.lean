/-
  ShelfKept for every input. No condition but that the tables are laid.
-/
import Derived.Test.YtjanddnlhaionaaGreatDoorKV
set_option maxRecDepth 100000
namespace Go.Proofs.YtjanddnlhaionaaGreatDoor
open Go.RowKit
open L3 (Tabs St)

set_option maxHeartbeats 4000000 in
theorem kept6 (K : List Int) (I : St) (n : Int) (L : List Ac) (lv : Value) (w : World) (h : ActsAt w lv L) (hT : Tabs K I w) :
    Calls Tryz.prog 6 #[.int .i64 n, lv] w fun e w' => e = .returned (.bool true) ∧ Below w.heap.size w w' := by
  have HF := Lib.hid (few26 L lv w h)
  have h2t := hT.two
  have HLV : Hid (∀ W, Below w.heap.size w W → Calls Tryz.prog 27 #[] W fun e w' => e = .returned (.bool true) ∧ Below W.heap.size W w') := fun W hb => lives27 K I W (hT.below hb h2t)
  have HL := Lib.hid h
  have HT := Lib.hid hT
  obtain ⟨lA, lc, rfl, -⟩ := id h
  cases hf : fewB L with
  | false =>
    rw [hf] at HF
    clear h HL hf hT h2t
    generalize L.length = ln at HF ⊢
    go_enter Tryz.func6, Tryz.ntmps6
    go_wp2_with (first | (go_at_call 26; refine HF.out.mono ?_; rintro _ w1 ⟨rfl, hb1⟩; have HB1 := Lib.hid hb1; have HL1 := Lib.hid (HLV.out _ hb1); clear hb1) | (go_at_call 27; refine HL1.out.mono ?_; rintro _ w3 ⟨rfl, hb3⟩; have HB3 := Lib.hid hb3; clear hb3))
    go_ret
    exact ⟨rfl, HB1.out.trans (HB3.out.mono HB1.out.size)⟩
  | true =>
    rw [hf] at HF
    by_cases h1 : 1 ≤ n
    · by_cases h2 : n ≤ 200
      · obtain ⟨k, rfl⟩ : ∃ k : Nat, n = (k : Int) := ⟨n.toNat, by omega⟩
        exact kept6_in K I k L _ w HL.out HT.out (by omega) (by omega) hf
      · have t1 : ¬ n < 1 := by omega
        have t2 : (200 : Int) < n := by omega
        clear h HL hf hT h2t
        generalize L.length = ln at HF ⊢
        go_enter Tryz.func6, Tryz.ntmps6
        go_wp2_with (first | (go_at_call 26; refine HF.out.mono ?_; rintro _ w1 ⟨rfl, hb1⟩; have HB1 := Lib.hid hb1; have HL1 := Lib.hid (HLV.out _ hb1); clear hb1) | (go_at_call 27; refine HL1.out.mono ?_; rintro _ w3 ⟨rfl, hb3⟩; have HB3 := Lib.hid hb3; clear hb3))
        go_ret
        exact ⟨rfl, HB1.out.trans (HB3.out.mono HB1.out.size)⟩
    · have t1 : n < 1 := by omega
      clear h HL hf hT h2t
      generalize L.length = ln at HF ⊢
      go_enter Tryz.func6, Tryz.ntmps6
      go_wp2_with (first | (go_at_call 26; refine HF.out.mono ?_; rintro _ w1 ⟨rfl, hb1⟩; have HB1 := Lib.hid hb1; have HL1 := Lib.hid (HLV.out _ hb1); clear hb1) | (go_at_call 27; refine HL1.out.mono ?_; rintro _ w3 ⟨rfl, hb3⟩; have HB3 := Lib.hid hb3; clear hb3))
      go_ret
      exact ⟨rfl, HB1.out.trans (HB3.out.mono HB1.out.size)⟩
end Go.Proofs.YtjanddnlhaionaaGreatDoor
