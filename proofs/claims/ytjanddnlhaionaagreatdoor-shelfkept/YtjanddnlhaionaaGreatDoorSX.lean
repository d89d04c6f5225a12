/-
  The four listed variables, laid in a world. No condition.
-/
import Derived.Test.YtjanddnlhaionaaGreatDoorSO
import Derived.ProofKit
import Derived.LaidMore
import Derived.OpenShut
import Derived.Lay
import Derived.Stop.Joined
import Derived.Lib.LaidTab
import Derived.Stop.LaidErr
namespace Go.Proofs.YtjanddnlhaionaaGreatDoor
open Go.ChangeShapes Go.WideShapes Go.ChangeAt Go.RowKit

def laid4 : List (String × DataW Unit) := [("fasti/digest.initial", Rows.laid_fasti_digest_initial), ("fasti/digest.roundKeys", Rows.laid_fasti_digest_roundKeys), ("unicode/utf8.acceptRanges", Rows.laid_unicode_utf8_acceptRanges), ("unicode/utf8.first", Rows.laid_unicode_utf8_first)]
theorem laid4_met {os : Os} {args : Array Value} : laidMetH Tryz.prog laid4 ((World.laidAll Tryz.prog os laid4).forCall (fun _ _ => 0) ⟨#[], args, []⟩).memory := by
  rw [MakeChecks.laidMetH_plain _ _ _ (by kernel_rfl)]
  exact laidMet_laidAll _ (by kernel_rfl) (by kernel_rfl)
theorem tabs_of_laid4 {W : World} (h : laidMetH Tryz.prog laid4 W) : L3.Tabs L3.keysL L3.initS W := by
  rw [MakeChecks.laidMetH_plain _ _ _ (by kernel_rfl)] at h
  unfold laid4 at h
  rw [L3.datum0, L3.datum1] at h
  have c37 : Tryz.prog.cellsOf 164 = 1 := by kernel_rfl
  have c39 : Tryz.prog.cellsOf 214 = 8 := by kernel_rfl
  have c55 : Tryz.prog.cellsOf 221 = 64 := by kernel_rfl
  have h0 := Lib.tabIs_of_head L3.gInit L3.tInit Tryz.underlying214 Tryz.underlying164 c37 c39 h
  have h1 := Lib.tabIs_of_head L3.gKeys L3.tKeys Tryz.underlying221 Tryz.underlying164 c37 c55 h.tail
  have hI : L3.InitAt W L3.initS := fun i hi => h0.cell L3.gInit i (by simpa [L3.St.list] using hi)
  have hK : L3.KeysAt W L3.keysL := fun i hi => h1.cell L3.gKeys i hi
  exact ⟨hK, hI, block_lt_of_cell (hK 0 (by omega))⟩
end Go.Proofs.YtjanddnlhaionaaGreatDoor
