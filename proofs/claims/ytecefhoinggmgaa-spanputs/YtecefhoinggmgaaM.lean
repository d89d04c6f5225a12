import Derived.Test.YtecefhoinggmgaaL
namespace Go.Proofs.Ytecefhoinggmgaa
open Go.RowKit

theorem pr1 : parseR [34, 97, 92, 110, 34] = ⟨2, 0, ⟨#[97, 10]⟩, 5, 0⟩ := by kernel_rfl
theorem pr2 : parseR [48, 48, 55] = ⟨0, 0, ⟨#[]⟩, 1, 4⟩ := by kernel_rfl
theorem pr3 : parseR [34, 97] = ⟨0, 0, ⟨#[]⟩, 2, 3⟩ := by kernel_rfl
theorem tx1 : textR 1 (-7) ⟨#[]⟩ = ([45, 55], 0) := by
  have hv : validV 1 (-7) ⟨#[]⟩ = true := by rw [validV, ByteArray.toList_eq]; rfl
  rw [textR, if_pos hv, if_neg (by omega)]
  have : digs 7 = [55] := by rw [digs_small (by omega)]; rfl
  rw [intText, if_pos (by omega), show (-7 : Int).natAbs = 7 from rfl, this]

end Go.Proofs.Ytecefhoinggmgaa
