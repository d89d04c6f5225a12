import Derived.Test.YtecefhoinggmgaaA
import Derived.Test.YtecefhoinggmgaaP
import Derived.Recover
import Derived.Deep.DeepMust
namespace Go.Proofs.Ytecefhoinggmgaa
open Go.RowKit

theorem Try.info5 : (Try.prog.info? 5).map (fun i => (i.zero, i.size, i.bytes)) = some (some (.int .u8 0), 1, 1) := by kernel_rfl
theorem info5 : ∃ i, Try.prog.info? 5 = some i ∧ i.zero = some (.int .u8 0) ∧ i.size = 1 ∧ i.bytes = 1 := by
  have h := Try.info5
  cases hi : Try.prog.info? 5 with
  | none => rw [hi] at h; simp at h
  | some i => rw [hi] at h; simp at h; exact ⟨i, rfl, h.1, h.2.1, h.2.2⟩

theorem addDigitR_ok (r : R) (d : Int) (hk : Ok r) (hd0 : 0 ≤ d) (hd9 : d ≤ 9) : Ok (addDigitR r d) := by
  obtain ⟨k1, k2, k3, k4⟩ := hk
  have hl := lim_le d hd0 hd9
  unfold addDigitR
  split
  · exact ⟨k1, k2, k3, k4⟩
  · rename_i h
    simp only [Bool.or_eq_true, decide_eq_true_eq, not_or] at h
    exact ⟨by simp only; omega, by simp only; omega, k3, k4⟩

theorem addPointR_ok (r : R) (c : Int) (hk : Ok r) : Ok (addPointR r c) := by
  obtain ⟨k1, k2, k3, k4⟩ := hk
  refine ⟨k1, k2, k3, ?_⟩
  have := encode_len c
  unfold addPointR
  simp only
  split
  · rw [List.length_append]; omega
  · exact k4

theorem ownsRow_slice {b : Nat} {w : World} {tv : Value} {n : Nat} {xs : List Value} (h : w.ownsRow b 5 1 tv n xs) : ∃ a cap, tv = .slice a n cap := by
  rcases h.2 with ⟨e1, e2⟩ | ⟨g, cap, cur, e, _⟩
  · exact ⟨_, _, by rw [e1, e2]⟩
  · exact ⟨_, _, e⟩

theorem strCells_eq (s : ByteArray) : Lib.strCells s = bytesV s.data.toList := rfl

end Go.Proofs.Ytecefhoinggmgaa
