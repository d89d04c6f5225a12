import Derived.Test.YtecefhoinggmgaaC
import Derived.Laws.BytesString
namespace Go.Proofs.Ytecefhoinggmgaa
open Go.RowKit

/-- The end of readLow, for a digit that is known. -/
theorem lowR_digit (c : Int) (h : 48 ≤ c) (h' : c ≤ 57) : lowR c = some (c - 48) := by simp [lowR, h, h']
theorem lowR_letter (c : Int) (h : 97 ≤ c) (h' : c ≤ 102) : lowR c = some (c - 97 + 10) := by
  unfold lowR; rw [if_neg (by omega), if_pos ⟨h, h'⟩]

theorem readDigitR_ok {r r' : R} {c : Int} (h : readDigitR r c = some r') (hk : Ok r) : Ok r' := by
  unfold readDigitR at h
  split at h
  · cases h
  · cases h; exact addDigitR_ok _ _ hk (by omega) (by omega)

theorem readR_ok {r r' : R} {c : Int} (h : readR r c = some r') (hk : Ok r) : Ok r' := by
  unfold readR at h
  split at h
  · unfold readFirstR at h
    split at h
    · cases h; exact hk
    split at h
    · cases h; exact hk
    split at h
    · cases h; exact hk
    · exact readDigitR_ok h (show Ok { r with pos := true } from hk)
  split at h
  · split at h
    · cases h
    · exact readDigitR_ok h hk
  split at h
  · exact readDigitR_ok h hk
  split at h
  · unfold readPointR at h
    split at h
    · cases h; exact hk
    split at h
    · cases h; exact hk
    split at h
    · cases h
    · cases h; exact addPointR_ok _ _ hk
  split at h
  · unfold readEscapeR at h
    split at h
    · cases h; exact addPointR_ok _ _ hk
    split at h
    · cases h; exact addPointR_ok _ _ hk
    split at h
    · cases h; exact hk
    · cases h
  split at h
  · unfold readHighR at h
    split at h
    · rename_i hc
      cases h
      exact ⟨hk.1, hk.2.1, by simp only; omega, hk.2.2.2⟩
    · cases h
  split at h
  · unfold readLowR at h
    split at h
    · cases h
    · split at h
      · cases h; exact addPointR_ok _ _ hk
      · cases h
  · cases h
end Go.Proofs.Ytecefhoinggmgaa
