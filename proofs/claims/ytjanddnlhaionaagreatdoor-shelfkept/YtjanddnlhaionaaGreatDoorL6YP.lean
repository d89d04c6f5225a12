/-
  The document's example holds; the walk of TapeNil. No condition.
-/
import Derived.Test.YtjanddnlhaionaaGreatDoorL6YO
namespace Go.Proofs.YtjanddnlhaionaaGreatDoor.L6
open Go.RowKit

set_option maxRecDepth 100000 in
theorem ints_lit (w : World) (l : List Int) : IntsAt (w.alloc (.cells (l.map (Value.int .i64)).toArray 3)) (w.heap.size + 1) (.slice (some ⟨w.heap.size, 0, none⟩) l.length l.length) l := by
  refine ⟨_, _, rfl, fun _ => ⟨w.heap.size, 0, rfl, by omega, fun i hi => ?_⟩⟩
  rw [Nat.zero_add]
  exact cell_row (heap_alloc_new w _) (by simp [hi])
set_option maxRecDepth 100000 in
theorem strs_lit (w : World) (s : ByteArray) : StrsAt (w.alloc (.cells #[.string s] 9)) (.slice (some ⟨w.heap.size, 0, none⟩) 1 1) [s] :=
  ⟨rfl, .inr ⟨w.heap.size, 1, _, rfl, Nat.zero_le _, heap_alloc_new w _, Nat.le_refl _, by unfold maxLen; omega, rfl, rfl⟩⟩
set_option maxRecDepth 100000 in
theorem one_byte {l : List ByteArray} (h : l.map (·.data.toList) = [[144]]) : l = [⟨#[144]⟩] := by
  cases l with
  | nil => simp at h
  | cons a t =>
    rw [List.map_cons] at h
    injection h with h1 h2
    have ht : t = [] := by cases t with | nil => rfl | cons _ _ => simp at h2
    rw [ht, eq_mkB h1]
    rfl
set_option maxRecDepth 100000 in
/-- Two drums apart. -/
theorem crash_apart {w : World} {F G : Nat → Prop} {b c : Nat} {d e : D} (hb : PAt w F b d) (hc : PAt w G c e) (hd : ∀ k, F k → ¬ G k) (hw : d.W.length ≤ 1000000) (l : List Int) (lv : Value) (hl : IntsAt w w.heap.size lv l) (hll : l.length ≤ 1000000) :
    Calls Tryz.prog 36 #[.pointer (some ⟨b, 0, none⟩), lv] w fun x w' => x = .returned (.int .i64 0) ∧ PAt w' F b (crashD d l) ∧ PAt w' G c e ∧ Turn F w w' :=
  (crash16 hb hw l lv hl hll).mono fun _ _ ⟨he, hP', hT⟩ => ⟨he, hP', hc.keep hT (fun k hg hf => hd k hf hg), hT⟩

end Go.Proofs.YtjanddnlhaionaaGreatDoor.L6
