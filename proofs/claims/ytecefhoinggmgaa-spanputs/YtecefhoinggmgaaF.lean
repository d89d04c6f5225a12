import Derived.Test.YtecefhoinggmgaaE
namespace Go.Proofs.Ytecefhoinggmgaa
open Go.RowKit

def decL (l : List UInt8) : Nat × Nat := Utf8.decode ⟨l.toArray⟩ 0
def badL (l : List UInt8) : Bool := (decL l).1 == 65533 && !(l.take 3 == [239, 191, 189])

/-- The walk over a text, code point by code point: the offset of what does not fit, or the state behind the last. -/
def runL {σ : Type} (step : σ → Int → Option σ) : Nat → Nat → List UInt8 → σ → Nat ⊕ σ
  | 0, _, _, r => .inr r
  | f + 1, pos, l, r =>
    if l = [] then .inr r
    else if badL l then .inl pos
    else match step r (decL l).1 with
      | none => .inl pos
      | some r' => runL step f (pos + (decL l).2) (l.drop (decL l).2) r'

theorem get!_list (l : List UInt8) (k : Nat) : (⟨l.toArray⟩ : ByteArray).get! k = l.getD k default := by
  show (l.toArray)[k]! = _
  rw [List.getElem!_toArray]
  simp [List.getD, List.getElem!_eq_getElem?_getD]

theorem get!_any (s : ByteArray) (k : Nat) : s.get! k = s.data.toList.getD k default := get!_list s.data.toList k

theorem get!_drop (s : ByteArray) (pos k : Nat) : (⟨(s.data.toList.drop pos).toArray⟩ : ByteArray).get! (0 + k) = s.get! (pos + k) := by
  rw [get!_list, get!_any]
  simp only [List.getD, List.getElem?_drop, Nat.zero_add]

theorem size_list (l : List UInt8) : (⟨l.toArray⟩ : ByteArray).size = l.length := rfl
theorem size_drop (s : ByteArray) (pos : Nat) : (⟨(s.data.toList.drop pos).toArray⟩ : ByteArray).size = s.size - pos := by
  rw [size_list, List.length_drop]; rfl

theorem decode_drop (s : ByteArray) (pos : Nat) : Utf8.decode s pos = decL (s.data.toList.drop pos) := by
  unfold decL Utf8.decode
  simp only [get!_drop, size_drop]
  have h : ∀ k, decide (0 + k < s.size - pos) = decide (pos + k < s.size) := fun k => by
    rw [decide_eq_decide]; omega
  simp only [h]

theorem decL_width (l : List UInt8) : 1 ≤ (decL l).2 := by
  unfold decL Utf8.decode
  simp only
  repeat' split
  all_goals simp

def swB (s : ByteArray) : Bool := decide ((3 : Int) ≤ s.size) && ((s.extract 0 3).toList == [239, 191, 189])

theorem extract_list (s : ByteArray) (a b : Nat) : (s.extract a b).data.toList = (s.data.toList.drop a).take (b - a) := by
  rw [ByteArray.data_extract, Array.toList_extract, List.extract_eq_take_drop]

theorem swB_eq (s : ByteArray) (pos : Nat) : swB (s.extract pos s.size) = ((s.data.toList.drop pos).take 3 == [239, 191, 189]) := by
  unfold swB
  rw [ByteArray.toList_eq, extract_list, extract_list]
  have hl : s.data.toList.length = s.size := rfl
  have e1 : (s.data.toList.drop pos).take (s.size - pos) = s.data.toList.drop pos := List.take_of_length_le (by rw [List.length_drop, hl]; exact Nat.le_refl _)
  rw [e1, List.drop_zero]
  by_cases h : (s.data.toList.drop pos).take 3 = [239, 191, 189]
  · have h3 := congrArg List.length h
    rw [List.length_take, List.length_drop, hl] at h3
    have hz : (s.extract pos s.size).size = s.size - pos := by
      have := congrArg List.length (extract_list s pos s.size)
      rw [e1, List.length_drop, hl] at this
      exact this
    have h3' : min 3 (s.size - pos) = 3 := h3
    have : (3 : Int) ≤ ((s.extract pos s.size).size : Int) := by rw [hz]; omega
    rw [decide_eq_true this, Bool.true_and]
  · simp [h]

set_option maxHeartbeats 400000 in
theorem sw46 (s : ByteArray) (w : World) :
    Calls Try.prog 60 #[.string s, .string ⟨#[239, 191, 189]⟩] w fun e w' => e = .returned (.bool (swB s)) ∧ w = w' := by
  by_cases h : (3 : Int) ≤ s.size
  · have hA : Hid (swB s = ((s.extract 0 3).toList == [239, 191, 189])) := by simp [Hid, swB, h]
    go_enter Try.func60, Try.ntmps60
    go_wp2
    go_ret
    exact ⟨by rw [hA.out]; rfl, rfl⟩
  · have hA : Hid (swB s = false) := by simp [Hid, swB, h]
    go_enter Try.func60, Try.ntmps60
    go_wp2
    go_ret
    exact ⟨by rw [hA.out]; rfl, rfl⟩

theorem drop_ne {s : ByteArray} {pos : Nat} (h : pos < s.size) : s.data.toList.drop pos ≠ [] := by
  intro e
  have := congrArg List.length e
  rw [List.length_drop] at this
  have hl : s.data.toList.length = s.size := rfl
  simp only [List.length_nil] at this
  omega
theorem drop_nil {s : ByteArray} {pos : Nat} (h : ¬ pos < s.size) : s.data.toList.drop pos = [] :=
  List.drop_eq_nil_of_le (by have hl : s.data.toList.length = s.size := rfl; omega)

theorem runL_end {σ : Type} {step : σ → Int → Option σ} {f pos : Nat} {r : σ} : runL step f pos [] r = .inr r := by
  cases f <;> simp [runL]

end Go.Proofs.Ytecefhoinggmgaa
