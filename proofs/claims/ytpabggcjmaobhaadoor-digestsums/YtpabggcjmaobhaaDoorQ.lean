/-
  The plain model of a hash: its state and its block, for the bytes that were put. Nothing here speaks of the program.
-/
import Derived.Test.YtpabggcjmaobhaaDoorP
namespace Go.Proofs.YtpabggcjmaobhaaDoor
open Go

/-- The state behind all whole blocks. -/
def foldB (K : List Int) (s : St) (l : List UInt8) : St :=
  if _h : l.length < 64 then s else foldB K (afterM K s (l.take 64)) (l.drop 64)
termination_by l.length
decreasing_by simp; omega

theorem foldB_small (K : List Int) (s : St) (l : List UInt8) (h : l.length < 64) : foldB K s l = s := by rw [foldB, dif_pos h]
theorem foldB_big (K : List Int) (s : St) (l : List UInt8) (h : ¬ l.length < 64) : foldB K s l = foldB K (afterM K s (l.take 64)) (l.drop 64) := by rw [foldB, dif_neg h]

/-- What is not in the state yet. -/
def tailB (l : List UInt8) : List UInt8 := l.drop (64 * (l.length / 64))
theorem tailB_length (l : List UInt8) : (tailB l).length = l.length % 64 := by simp [tailB]; omega

theorem foldB_append (K : List Int) : ∀ (n : Nat) (s : St) (a b : List UInt8), a.length = 64 * n → foldB K s (a ++ b) = foldB K (foldB K s a) b
  | 0, s, a, b, h => by
    have : a = [] := List.length_eq_zero_iff.1 (by omega)
    subst this
    rw [foldB_small K s [] (by simp)]; rfl
  | n + 1, s, a, b, h => by
    rw [foldB_big K s (a ++ b) (by simp; omega), foldB_big K s a (by omega)]
    rw [List.take_append_of_le_length (by omega), List.drop_append_of_le_length (by omega)]
    exact foldB_append K n _ _ _ (by simp; omega)

theorem split_tail (l : List UInt8) : l.take (64 * (l.length / 64)) ++ tailB l = l := List.take_append_drop _ _

/-- Bytes that do not fill the block. -/
theorem put_less (K : List Int) (s : St) (l x : List UInt8) (h : l.length % 64 + x.length < 64) : foldB K s (l ++ x) = foldB K s l ∧ tailB (l ++ x) = tailB l ++ x := by
  have hd : (l ++ x).length / 64 = l.length / 64 := by simp; omega
  have ht : tailB (l ++ x) = tailB l ++ x := by
    unfold tailB
    rw [hd, List.drop_append_of_le_length (by omega)]
  refine ⟨?_, ht⟩
  have h1 : foldB K s (l ++ x) = foldB K (foldB K s (l.take (64 * (l.length / 64)))) (tailB l ++ x) := by
    rw [← foldB_append K (l.length / 64) s _ _ (by simp; omega), ← List.append_assoc, split_tail]
  have h2 : foldB K s l = foldB K (foldB K s (l.take (64 * (l.length / 64)))) (tailB l) := by
    rw [← foldB_append K (l.length / 64) s _ _ (by simp; omega), split_tail]
  rw [h1, h2, foldB_small _ _ (tailB l ++ x) (by rw [List.length_append, tailB_length]; omega), foldB_small _ _ (tailB l) (by rw [tailB_length]; omega)]

/-- Bytes that fill it. -/
theorem put_full (K : List Int) (s : St) (l x : List UInt8) (h : l.length % 64 + x.length = 64) : foldB K s (l ++ x) = afterM K (foldB K s l) (tailB l ++ x) ∧ tailB (l ++ x) = [] := by
  have ht : tailB (l ++ x) = [] := by
    apply List.length_eq_zero_iff.1
    rw [tailB_length, List.length_append]; omega
  refine ⟨?_, ht⟩
  have h1 : foldB K s (l ++ x) = foldB K (foldB K s (l.take (64 * (l.length / 64)))) (tailB l ++ x) := by
    rw [← foldB_append K (l.length / 64) s _ _ (by simp; omega), ← List.append_assoc, split_tail]
  have h2 : foldB K s l = foldB K s (l.take (64 * (l.length / 64))) := by
    have h2 : foldB K s l = foldB K (foldB K s (l.take (64 * (l.length / 64)))) (tailB l) := by
      rw [← foldB_append K (l.length / 64) s _ _ (by simp; omega), split_tail]
    rw [h2, foldB_small _ _ (tailB l) (by rw [tailB_length]; omega)]
  have hlen : (tailB l ++ x).length = 64 := by rw [List.length_append, tailB_length]; omega
  rw [h1, ← h2, foldB_big _ _ (tailB l ++ x) (by omega), List.take_of_length_le (by omega), List.drop_of_length_le (by omega), foldB_small _ _ [] (by simp)]

theorem hash_full (K : List Int) (I : St) (l x B : List UInt8) (r : Nat) (hr : l.length % 64 = r) (hB : B.length = 64) (hBt : B.take r = tailB l) (hx : r + x.length = 64) :
    foldB K I (l ++ x) = afterM K (foldB K I l) (B.take r ++ x ++ B.drop (r + x.length)) ∧ (B.take r ++ x ++ B.drop (r + x.length)).take ((l ++ x).length % 64) = tailB (l ++ x) := by
  obtain ⟨h1, h2⟩ := put_full K I l x (by omega)
  have h0 : (l ++ x).length % 64 = 0 := by simp; omega
  rw [h2, h0, h1, hBt, hx, List.drop_of_length_le (by omega), List.append_nil]
  exact ⟨rfl, rfl⟩
theorem hash_less (K : List Int) (I : St) (l x B : List UInt8) (r : Nat) (hr : l.length % 64 = r) (hB : B.length = 64) (hBt : B.take r = tailB l) (hx : r + x.length < 64) :
    foldB K I (l ++ x) = foldB K I l ∧ (B.take r ++ x ++ B.drop (r + x.length)).take ((l ++ x).length % 64) = tailB (l ++ x) := by
  obtain ⟨h1, h2⟩ := put_less K I l x (by omega)
  have h0 : (l ++ x).length % 64 = r + x.length := by simp; omega
  have h3 : (B.take r ++ x).length = r + x.length := by simp; omega
  refine ⟨h1, ?_⟩
  rw [h2, h0, ← h3, List.take_left, hBt]

/-- The 74 cells of a hash. -/
def hashRow (m : Bool) (s : St) (B : List UInt8) (n : Nat) : List Value := .bool m :: (s.cells.toList ++ (bytesV B ++ [.int .i64 (n : Int)]))
theorem cells_len (s : St) : s.cells.toList.length = 8 := rfl
theorem bytesV_len (B : List UInt8) : (bytesV B).length = B.length := by simp [bytesV]
theorem hashRow_length (m : Bool) (s : St) (B : List UInt8) (n : Nat) (h : B.length = 64) : (hashRow m s B n).length = 74 := by
  simp [hashRow, bytesV_len, h, St.cells]
theorem hashRow_made (m : Bool) (s : St) (B : List UInt8) (n : Nat) : (hashRow m s B n)[0]? = some (.bool m) := rfl
theorem hashRow_len (m : Bool) (s : St) (B : List UInt8) (n : Nat) (h : B.length = 64) : (hashRow m s B n)[73]? = some (.int .i64 n) := by
  unfold hashRow
  rw [List.getElem?_cons_succ, List.getElem?_append_right (by rw [cells_len]; omega), cells_len, List.getElem?_append_right (by rw [bytesV_len]; omega), bytesV_len, h]
  rfl
theorem hashRow_setLen (m : Bool) (s : St) (B : List UInt8) (n k : Nat) (h : B.length = 64) : (hashRow m s B n).set 73 (.int .i64 (k : Int)) = hashRow m s B k := by
  unfold hashRow
  rw [List.set_cons_succ, List.set_append_right _ _ (by rw [cells_len]; omega), cells_len, List.set_append_right _ _ (by rw [bytesV_len]; omega), bytesV_len, h]
  rfl
theorem hashRow_state (m : Bool) (s t : St) (B : List UInt8) (n : Nat) : (hashRow m s B n).take 1 ++ t.cells.toList ++ (hashRow m s B n).drop (1 + 8) = hashRow m t B n := rfl
theorem hashRow_copy (m : Bool) (s : St) (B C : List UInt8) (n r : Nat) (hr : r + C.length ≤ B.length) :
    (hashRow m s B n).take (9 + r) ++ bytesV C ++ (hashRow m s B n).drop (9 + r + C.length) = hashRow m s (B.take r ++ C ++ B.drop (r + C.length)) n := by
  unfold hashRow
  have e1 : 9 + r = (8 + r) + 1 := by omega
  have e2 : 9 + r + C.length = (8 + (r + C.length)) + 1 := by omega
  rw [e2, e1, List.take_succ_cons, List.drop_succ_cons]
  rw [List.take_append, List.drop_append, cells_len, List.take_of_length_le (by rw [cells_len]; omega), List.drop_of_length_le (by rw [cells_len]; omega)]
  rw [show 8 + r - 8 = r by omega, show 8 + (r + C.length) - 8 = r + C.length by omega]
  rw [List.take_append_of_le_length (by rw [bytesV_len]; omega), List.drop_append_of_le_length (by rw [bytesV_len]; omega)]
  simp [bytesV]
end Go.Proofs.YtpabggcjmaobhaaDoor
