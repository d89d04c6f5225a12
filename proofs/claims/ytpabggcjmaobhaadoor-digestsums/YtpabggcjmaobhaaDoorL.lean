/-
  What the listed variables read as, for the walks; the document's example holds.
-/
import Derived.Test.YtpabggcjmaobhaaDoorH
import Derived.Test.YtpabggcjmaobhaaDoorJ
import Derived.ProofKit
import Derived.LaidMore
import Derived.OpenShut
import Derived.Stop.Joined
import Derived.Lib.LaidTab
import Derived.Stop.LaidErr
namespace Go.Proofs.YtpabggcjmaobhaaDoor
open Go.ChangeShapes Go.WideShapes Go.ChangeAt Go.RowKit

def laid2 : List (String × DataW Unit) := [("fasti/digest.initial", Rows.laid_fasti_digest_initial), ("fasti/digest.roundKeys", Rows.laid_fasti_digest_roundKeys)]
theorem own : ownKnob Tryd.prog.godebug = none := by kernel_rfl
theorem gInit : Tryd.prog.globalNamed "fasti/digest.initial" = some 0 := by kernel_rfl
theorem gKeys : Tryd.prog.globalNamed "fasti/digest.roundKeys" = some 1 := by kernel_rfl
theorem tInit : (Tryd.prog.globals[0]?).map (·.type) = some 39 := by kernel_rfl
theorem tKeys : (Tryd.prog.globals[1]?).map (·.type) = some 55 := by kernel_rfl

/-- The door's own heap meets the condition. -/
theorem door_met (os : Os) (args : Array Value) : laidMetH Tryd.prog laid2 ((World.doorLaid Tryd.prog 400 os).forCall (fun _ _ => 0) ⟨#[], args, []⟩).memory :=
  laidMetH_of_parts3 (fuel := 8) (laidMet_of_run' 8 (by kernel_rfl) (by kernel_rfl)) (by kernel_rfl) (by kernel_rfl)

theorem initL_eq : initS.list = [1779033703, 3144134277, 1013904242, 2773480762, 1359893119, 2600822924, 528734635, 1541459225] := rfl
theorem datum0 {H : Type} : (Rows.laid_fasti_digest_initial : DataW H) = Lib.tabData .u32 initS.list := rfl
theorem datum1 {H : Type} : (Rows.laid_fasti_digest_roundKeys : DataW H) = Lib.tabData .u32 keysL := rfl

theorem tabs_of_laid {W : World} (h : laidMetH Tryd.prog laid2 W) : Tabs keysL initS W := by
  rw [MakeChecks.laidMetH_plain _ _ _ (by kernel_rfl)] at h
  unfold laid2 at h
  rw [datum0, datum1] at h
  have c37 : Tryd.prog.cellsOf 37 = 1 := by kernel_rfl
  have c39 : Tryd.prog.cellsOf 39 = 8 := by kernel_rfl
  have c55 : Tryd.prog.cellsOf 55 = 64 := by kernel_rfl
  have h0 := Lib.tabIs_of_head gInit tInit Tryd.underlying39 Tryd.underlying37 c37 c39 h
  have h1 := Lib.tabIs_of_head gKeys tKeys Tryd.underlying55 Tryd.underlying37 c37 c55 h.tail
  have hI : InitAt W initS := fun i hi => h0.cell gInit i (by simpa [St.list] using hi)
  have hK : KeysAt W keysL := fun i hi => h1.cell gKeys i hi
  exact ⟨hK, hI, block_lt_of_cell (hK 0 (by omega))⟩
set_option maxHeartbeats 400000 in
theorem lives8 (w : World) (hT : Tabs keysL initS w) : Calls Tryd.prog 8 #[] w fun e w' => e = .returned (.bool true) ∧ Below w.heap.size w w' := by
  have HS := Lib.hid (sum9 keysL initS ⟨#[97, 98, 99]⟩ w hT (by show 3 ≤ 900000; omega))
  have hl := livesABC
  obtain ⟨D, hD⟩ : ∃ D, digestM keysL initS (⟨#[97, 98, 99]⟩ : ByteArray).data.toList = D := ⟨_, rfl⟩
  have hD2 : digestM keysL initS [97, 98, 99] = D := hD
  rw [hD] at HS
  rw [hD2] at hl
  have hDl : D.length = 32 := by have := hexL_length D; rw [hl] at this; simp at this; omega
  have HH := Lib.hid (hex13 ⟨D.toArray⟩ (by show D.length ≤ 400000; omega))
  have hDD : (⟨D.toArray⟩ : ByteArray).data.toList = D := rfl
  rw [hDD, hl] at HH
  clear hl hD hD2 hDl hDD
  go_enter Tryd.func8, Tryd.ntmps8
  go_wp2_with fail
  refine HS.out.mono ?_
  rintro e w1 ⟨rfl, hb1⟩
  go_wp2_with fail
  refine (HH.out w1).mono ?_
  rintro e w2 ⟨rfl, hb2⟩
  clear HS HH
  go_wp2
  go_ret
  exact ⟨rfl, hb1.trans (hb2.mono hb1.size)⟩

set_option maxHeartbeats 400000 in
theorem nil7 (s : ByteArray) (made : Bool) (w : World) (hT : Tabs keysL initS w) : Calls Tryd.prog 7 #[.string s, .bool made] w fun e w' => e = .returned (.bool true) ∧ Below w.heap.size w w' := by
  have HL := Lib.hid (fun W (h : Below w.heap.size w W) => lives8 W (hT.below h hT.two))
  by_cases hlong : 3000 < s.size
  · go_enter Tryd.func7, Tryd.ntmps7
    go_wp2_with (go_at_call 8; refine (HL.out _ (Below.refl _ _)).mono ?_; rintro e w' ⟨rfl, hb⟩)
    go_ret
    exact ⟨rfl, hb⟩
  · cases made with
    | false =>
      have HN : Hid (NotMade w none) := Or.inl rfl
      go_enter Tryd.func7, Tryd.ntmps7
      go_wp2_with (first | (go_at_call 8; refine (HL.out _ (Below.refl _ _)).mono ?_; rintro e w' ⟨rfl, hb⟩) | (go_at_call 16; refine (put16f none s w HN.out).mono ?_; rintro e w' ⟨rfl, rfl⟩) | (go_at_call 18; refine (len18f none w HN.out).mono ?_; rintro e w' ⟨rfl, rfl⟩) | (go_at_call 17; refine (sum17f none w HN.out).mono ?_; rintro e w' ⟨rfl, rfl⟩))
      go_ret
      exact ⟨rfl, hb⟩
    | true =>
      have hz := zero43.1
      have hZs := zeroRow_size
      have hZ0 : zeroRow[0]? = some (.bool false) := rfl
      generalize zeroRow = Z at hz hZs hZ0
      have hne : ¬ Z = #[] := by rintro rfl; simp at hZs
      have HN : Hid (NotMade (w.alloc (.cells Z 43)) (some ⟨w.heap.size, 0, none⟩)) :=
        Or.inr ⟨w.heap.size, rfl, by rw [cell_of_row _ _ _ _ _ _ (heap_alloc_new w _)]; exact hZ0⟩
      have HB : Hid (Below w.heap.size w (w.alloc (.cells Z 43))) := (Below.refl _ _).alloc (Nat.le_refl _) _
      clear hZ0
      go_enter Tryd.func7, Tryd.ntmps7
      go_wp2_with (first | (go_at_call 8; refine (HL.out _ HB.out).mono ?_; rintro e w' ⟨rfl, hb⟩) | (go_at_call 16; refine (put16f _ s _ HN.out).mono ?_; rintro e w' ⟨rfl, rfl⟩) | (go_at_call 18; refine (len18f _ _ HN.out).mono ?_; rintro e w' ⟨rfl, rfl⟩) | (go_at_call 17; refine (sum17f _ _ HN.out).mono ?_; rintro e w' ⟨rfl, rfl⟩))
      go_ret
      exact ⟨rfl, HB.out.trans (hb.mono HB.out.size)⟩
end Go.Proofs.YtpabggcjmaobhaaDoor
