/-
  The document's words of a block, and its keys.
-/
import Derived.Test.YtpabggcjmaobhaaDoorRA
import Derived.Test.YtpabggcjmaobhaaDoorRK
namespace Go.Proofs.YtpabggcjmaobhaaDoor
open Go.RowKit

set_option maxRecDepth 100000 in
set_option maxHeartbeats 400000 in
theorem k30 (i : Nat) (hi : i < 64) (w : World) :
    Calls Tryd.prog 30 #[.int .i64 (i : Int)] w fun e w' => e = .returned (.int .u32 (keysL.getD i 0)) ∧ w = w' := by
  have hix := key_index i hi w
  generalize keysL.getD i 0 = y at hix ⊢
  have HIX := Lib.hid hix
  clear hix
  go_enter Tryd.func30, Tryd.ntmps30
  go_wp2_with fail
  change Oper.upon _ _ _ _ _ (Result.andThen (Sem.run Tryd.prog (Instr.index 55 (.agg (wordsV keysL).toArray) (.int .i64 (i : Int))) w) _)
  rw [HIX.out]
  go_wp2
  go_ret
  exact ⟨rfl, rfl⟩
theorem k30q (i : Nat) (hi : i < 64) (w : World) :
    Calls Tryd.prog 30 #[.int .i64 (i : Int)] w fun e w' => e = .returned (.int .u32 (keysL.getD i 0)) ∧ ∃ m, w' = w.drewN m :=
  (k30 i hi w).mono fun _ _ ⟨he, hw⟩ => ⟨he, 0, hw.symm⟩
end Go.Proofs.YtpabggcjmaobhaaDoor
