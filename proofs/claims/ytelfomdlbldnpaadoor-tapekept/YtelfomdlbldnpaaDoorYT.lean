/-
  TapeWhole for every input. No condition.
-/
import Derived.Test.YtelfomdlbldnpaaDoorYS
namespace Go.Proofs.YtelfomdlbldnpaaDoor
open Go.RowKit

set_option maxRecDepth 100000 in
set_option maxHeartbeats 4000000 in
theorem whole5 (n : Int) (l : List ByteArray) (lv : Value) (w : World) (hl : SAt w w.heap.size lv l) :
    Calls Tryd.prog 5 #[.int .i64 n, lv] w fun e w' => e = .returned (.bool true) ∧ Below w.heap.size w w' := by
  by_cases h1 : 1 ≤ n
  · by_cases h2 : n ≤ 200
    · by_cases h3 : l.length ≤ 60
      · obtain ⟨k, rfl⟩ : ∃ k : Nat, n = (k : Int) := ⟨n.toNat, by omega⟩
        exact whole5_in k l lv w hl (by omega) (by omega) h3
      · obtain ⟨lA, lc, rfl, -⟩ := id hl
        have t1 : ¬ n < 1 := by omega
        have t2 : ¬ (200 : Int) < n := by omega
        have t3 : (60 : Int) < (l.length : Int) := by omega
        have HLV := Lib.hid (lives8 w)
        clear hl
        go_enter Tryd.func5, Tryd.ntmps5
        go_wp2_with (go_at_call 8; refine HLV.out.mono ?_; rintro e w3 ⟨rfl, hb3⟩; have HB3 := Lib.hid hb3; clear hb3)
        go_ret
        exact ⟨rfl, HB3.out⟩
    · obtain ⟨lA, lc, rfl, -⟩ := id hl
      have t1 : ¬ n < 1 := by omega
      have t2 : (200 : Int) < n := by omega
      have HLV := Lib.hid (lives8 w)
      clear hl
      go_enter Tryd.func5, Tryd.ntmps5
      go_wp2_with (go_at_call 8; refine HLV.out.mono ?_; rintro e w3 ⟨rfl, hb3⟩; have HB3 := Lib.hid hb3; clear hb3)
      go_ret
      exact ⟨rfl, HB3.out⟩
  · obtain ⟨lA, lc, rfl, -⟩ := id hl
    have t1 : n < 1 := by omega
    have HLV := Lib.hid (lives8 w)
    clear hl
    go_enter Tryd.func5, Tryd.ntmps5
    go_wp2_with (go_at_call 8; refine HLV.out.mono ?_; rintro e w3 ⟨rfl, hb3⟩; have HB3 := Lib.hid hb3; clear hb3)
    go_ret
    exact ⟨rfl, HB3.out⟩
end Go.Proofs.YtelfomdlbldnpaaDoor
