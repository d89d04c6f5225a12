/-
  TapeKept for every input. No condition.
-/
import Derived.Test.YtelfomdlbldnpaaDoorZE
namespace Go.Proofs.YtelfomdlbldnpaaDoor
open Go.RowKit

set_option maxRecDepth 100000 in
set_option maxHeartbeats 4000000 in
theorem kept4 (n : Int) (L : List Ac) (lv : Value) (w : World) (hl : AcsAt w w.heap.size lv L) :
    Calls Tryd.prog 4 #[.int .i64 n, lv] w fun e w' => e = .returned (.bool true) ∧ Below w.heap.size w w' := by
  have HF := Lib.hid (few7 L lv w _ hl)
  have HLV := Lib.hid (lives8 w)
  have HL := Lib.hid hl
  obtain ⟨lA, lc, rfl, -⟩ := id hl
  cases hf : fewB L with
  | false =>
    rw [hf] at HF
    clear hl HL hf
    generalize L.length = ln at HF ⊢
    go_enter Tryd.func4, Tryd.ntmps4
    go_wp2_with (first | (go_at_call 7; refine HF.out.mono ?_; rintro e w' ⟨rfl, rfl⟩) | (go_at_call 8; refine HLV.out.mono ?_; rintro e w3 ⟨rfl, hb3⟩; have HB3 := Lib.hid hb3; clear hb3))
    go_ret
    exact ⟨rfl, HB3.out⟩
  | true =>
    rw [hf] at HF
    by_cases h1 : 1 ≤ n
    · by_cases h2 : n ≤ 60
      · obtain ⟨k, rfl⟩ : ∃ k : Nat, n = (k : Int) := ⟨n.toNat, by omega⟩
        exact kept4_in k L _ w HL.out (by omega) (by omega) hf
      · have t1 : ¬ n < 1 := by omega
        have t2 : (60 : Int) < n := by omega
        clear hl HL hf
        generalize L.length = ln at HF ⊢
        go_enter Tryd.func4, Tryd.ntmps4
        go_wp2_with (first | (go_at_call 7; refine HF.out.mono ?_; rintro e w' ⟨rfl, rfl⟩) | (go_at_call 8; refine HLV.out.mono ?_; rintro e w3 ⟨rfl, hb3⟩; have HB3 := Lib.hid hb3; clear hb3))
        go_ret
        exact ⟨rfl, HB3.out⟩
    · have t1 : n < 1 := by omega
      clear hl HL hf
      generalize L.length = ln at HF ⊢
      go_enter Tryd.func4, Tryd.ntmps4
      go_wp2_with (first | (go_at_call 7; refine HF.out.mono ?_; rintro e w' ⟨rfl, rfl⟩) | (go_at_call 8; refine HLV.out.mono ?_; rintro e w3 ⟨rfl, hb3⟩; have HB3 := Lib.hid hb3; clear hb3))
      go_ret
      exact ⟨rfl, HB3.out⟩
end Go.Proofs.YtelfomdlbldnpaaDoor
