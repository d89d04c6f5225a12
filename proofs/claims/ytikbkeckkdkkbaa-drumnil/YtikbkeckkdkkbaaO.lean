/-
  Nil drums, and those that no constructor returned; the walk of DrumNil. No condition.
-/
import Derived.Test.YtikbkeckkdkkbaaN
namespace Go.Proofs.Ytikbkeckkdkkbaa
open Go.RowKit

def ExNot (p : Value) (w : World) : Prop := Calls Try.prog 26 #[p] w fun e w' => e = .returned (.bool false) ∧ w = w'
theorem exNot_nil (w : World) : ExNot (.pointer none) w := by
  unfold ExNot
  go_enter Try.func26, Try.ntmps26
  go_wp2
  go_ret
  exact ⟨rfl, rfl⟩
theorem exNot_zero (w : World) (b : Nat) (h : w.cell? ⟨b, 0, none⟩ = some (.slice none 0 0)) : ExNot (.pointer (some ⟨b, 0, none⟩)) w := by
  unfold ExNot
  go_enter Try.func26, Try.ntmps26
  go_wp2
  go_ret
  exact ⟨rfl, rfl⟩
set_option maxHeartbeats 400000 in
theorem read22_no {p : Value} {w : World} (h : ExNot p w) (i : Int) :
    Calls Try.prog 22 #[p, .int .i64 i] w fun e w' => e = .returned (.tuple #[.string ByteArray.empty, .int .i64 1]) ∧ w = w' := by
  have HE := Lib.hid h
  clear h
  go_enter Try.func22, Try.ntmps22
  go_wp2_with (go_at_call 26; refine HE.out.mono ?_; rintro e w' ⟨rfl, rfl⟩)
  go_ret2
  exact ⟨rfl, rfl⟩
set_option maxHeartbeats 400000 in
theorem write18_no {p : Value} {w : World} (h : ExNot p w) (i : Int) (s : ByteArray) :
    Calls Try.prog 18 #[p, .int .i64 i, .string s] w fun e w' => e = .returned (.int .i64 1) ∧ w = w' := by
  have HE := Lib.hid h
  clear h
  go_enter Try.func18, Try.ntmps18
  go_wp2_with (go_at_call 26; refine HE.out.mono ?_; rintro e w' ⟨rfl, rfl⟩)
  go_ret
  exact ⟨rfl, rfl⟩
set_option maxHeartbeats 400000 in
theorem settle21_no {p : Value} {w : World} (h : ExNot p w) :
    Calls Try.prog 21 #[p] w fun e w' => e = .returned (.int .i64 1) ∧ w = w' := by
  have HE := Lib.hid h
  clear h
  go_enter Try.func21, Try.ntmps21
  go_wp2_with (go_at_call 26; refine HE.out.mono ?_; rintro e w' ⟨rfl, rfl⟩)
  go_ret
  exact ⟨rfl, rfl⟩
set_option maxHeartbeats 400000 in
theorem arm23_no {p : Value} {w : World} (h : ExNot p w) (i : Int) :
    Calls Try.prog 23 #[p, .int .i64 i] w fun e w' => e = .returned (.int .i64 1) ∧ w = w' := by
  have HE := Lib.hid h
  clear h
  go_enter Try.func23, Try.ntmps23
  go_wp2_with (go_at_call 26; refine HE.out.mono ?_; rintro e w' ⟨rfl, rfl⟩)
  go_ret
  exact ⟨rfl, rfl⟩
set_option maxHeartbeats 400000 in
theorem crash16_no {p : Value} {w : World} (h : ExNot p w) :
    Calls Try.prog 16 #[p, .slice none 0 0] w fun e w' => e = .returned (.int .i64 1) ∧ w = w' := by
  have HE := Lib.hid h
  clear h
  go_enter Try.func16, Try.ntmps16
  go_wp2_with (go_at_call 26; refine HE.out.mono ?_; rintro e w' ⟨rfl, rfl⟩)
  go_ret
  exact ⟨rfl, rfl⟩
set_option maxHeartbeats 400000 in
theorem sure17_no {p : Value} {w : World} (h : ExNot p w) (i : Int) :
    Calls Try.prog 17 #[p, .int .i64 i] w fun e w' => e = .returned (.string ByteArray.empty) ∧ w = w' := by
  have HE := Lib.hid h
  clear h
  go_enter Try.func17, Try.ntmps17
  go_wp2_with (go_at_call 26; refine HE.out.mono ?_; rintro e w' ⟨rfl, rfl⟩)
  go_ret
  exact ⟨rfl, rfl⟩
set_option maxHeartbeats 400000 in
theorem loose20_no {p : Value} {w : World} (h : ExNot p w) :
    Calls Try.prog 20 #[p] w fun e w' => e = .returned (.int .i64 0) ∧ w = w' := by
  have HE := Lib.hid h
  clear h
  go_enter Try.func20, Try.ntmps20
  go_wp2_with (go_at_call 26; refine HE.out.mono ?_; rintro e w' ⟨rfl, rfl⟩)
  go_ret
  exact ⟨rfl, rfl⟩
set_option maxHeartbeats 400000 in
theorem size25_no {p : Value} {w : World} (h : ExNot p w) :
    Calls Try.prog 25 #[p] w fun e w' => e = .returned (.int .i64 0) ∧ w = w' := by
  have HE := Lib.hid h
  clear h
  go_enter Try.func25, Try.ntmps25
  go_wp2_with (go_at_call 26; refine HE.out.mono ?_; rintro e w' ⟨rfl, rfl⟩)
  go_ret
  exact ⟨rfl, rfl⟩
set_option maxHeartbeats 400000 in
theorem down24_no {p : Value} {w : World} (h : ExNot p w) :
    Calls Try.prog 24 #[p] w fun e w' => e = .returned (.bool false) ∧ w = w' := by
  have HE := Lib.hid h
  clear h
  go_enter Try.func24, Try.ntmps24
  go_wp2_with (go_at_call 26; refine HE.out.mono ?_; rintro e w' ⟨rfl, rfl⟩)
  go_ret
  exact ⟨rfl, rfl⟩
set_option maxHeartbeats 400000 in
theorem copy11_no {p : Value} {w : World} (h : ExNot p w) :
    Calls Try.prog 11 #[p] w fun e w' => e = .returned (.pointer none) ∧ w = w' := by
  have HE := Lib.hid h
  clear h
  go_enter Try.func11, Try.ntmps11
  go_wp2_with (go_at_call 26; refine HE.out.mono ?_; rintro e w' ⟨rfl, rfl⟩)
  go_ret
  exact ⟨rfl, rfl⟩

set_option maxRecDepth 100000 in
set_option maxHeartbeats 1000000 in
theorem nil6_big (i : Int) (s : ByteArray) (m : Bool) (w : World) (hs : 200 < s.size) :
    Calls Try.prog 6 #[.int .i64 i, .string s, .bool m] w fun e w' => e = .returned (.bool true) ∧ Below w.heap.size w w' := by
  have K8 := Lib.hid (lives8 w)
  have t : decide ((200 : Int) < (s.size : Int)) = true := by simp; omega
  go_enter Try.func6, Try.ntmps6
  go_wp2_with (go_at_call 8; refine K8.out.mono ?_; rintro e w' ⟨rfl, hb⟩)
  go_ret
  exact ⟨rfl, hb⟩
set_option maxRecDepth 100000 in
set_option maxHeartbeats 1000000 in
theorem nil6_nil (i : Int) (s : ByteArray) (w : World) (hs : s.size ≤ 200) :
    Calls Try.prog 6 #[.int .i64 i, .string s, .bool false] w fun e w' => e = .returned (.bool true) ∧ Below w.heap.size w w' := by
  have t : decide ((200 : Int) < (s.size : Int)) = false := by simp; omega
  have hx := exNot_nil w
  have K22 := Lib.hid (read22_no hx i)
  have K18 := Lib.hid (write18_no hx i s)
  have K21 := Lib.hid (settle21_no hx)
  have K23 := Lib.hid (arm23_no hx i)
  have K16 := Lib.hid (crash16_no hx)
  have K17 := Lib.hid (sure17_no hx i)
  have K20 := Lib.hid (loose20_no hx)
  have K25 := Lib.hid (size25_no hx)
  have K24 := Lib.hid (down24_no hx)
  have K11 := Lib.hid (copy11_no hx)
  have K8 := Lib.hid (lives8 w)
  clear hx
  go_enter Try.func6, Try.ntmps6
  go_wp2_with (first | (go_at_call 22; refine K22.out.mono ?_; rintro e w' ⟨rfl, rfl⟩) | (go_at_call 18; refine K18.out.mono ?_; rintro e w' ⟨rfl, rfl⟩) | (go_at_call 21; refine K21.out.mono ?_; rintro e w' ⟨rfl, rfl⟩) | (go_at_call 23; refine K23.out.mono ?_; rintro e w' ⟨rfl, rfl⟩) | (go_at_call 16; refine K16.out.mono ?_; rintro e w' ⟨rfl, rfl⟩) | (go_at_call 17; refine K17.out.mono ?_; rintro e w' ⟨rfl, rfl⟩) | (go_at_call 20; refine K20.out.mono ?_; rintro e w' ⟨rfl, rfl⟩) | (go_at_call 25; refine K25.out.mono ?_; rintro e w' ⟨rfl, rfl⟩) | (go_at_call 24; refine K24.out.mono ?_; rintro e w' ⟨rfl, rfl⟩) | (go_at_call 11; refine K11.out.mono ?_; rintro e w' ⟨rfl, rfl⟩) | (go_at_call 8; refine K8.out.mono ?_; rintro e w' ⟨rfl, hb⟩))
  go_ret
  exact ⟨rfl, hb⟩
set_option maxRecDepth 100000 in
set_option maxHeartbeats 1000000 in
theorem nil6_zero (i : Int) (s : ByteArray) (w : World) (hs : s.size ≤ 200) :
    Calls Try.prog 6 #[.int .i64 i, .string s, .bool true] w fun e w' => e = .returned (.bool true) ∧ Below w.heap.size w w' := by
  have t : decide ((200 : Int) < (s.size : Int)) = false := by simp; omega
  have hb0 : Below w.heap.size w (w.alloc (.cells #[.slice none 0 0, .slice none 0 0, .int .i64 0, .bool false] 58)) := (Below.refl _ _).alloc (Nat.le_refl _) _
  have hx := exNot_zero (w.alloc (.cells #[.slice none 0 0, .slice none 0 0, .int .i64 0, .bool false] 58)) w.heap.size (cell_row (heap_alloc_new w _) rfl)
  have HB0 := Lib.hid hb0
  clear hb0
  have K22 := Lib.hid (read22_no hx i)
  have K18 := Lib.hid (write18_no hx i s)
  have K21 := Lib.hid (settle21_no hx)
  have K23 := Lib.hid (arm23_no hx i)
  have K16 := Lib.hid (crash16_no hx)
  have K17 := Lib.hid (sure17_no hx i)
  have K20 := Lib.hid (loose20_no hx)
  have K25 := Lib.hid (size25_no hx)
  have K24 := Lib.hid (down24_no hx)
  have K11 := Lib.hid (copy11_no hx)
  have K8 := Lib.hid (lives8 (w.alloc (.cells #[.slice none 0 0, .slice none 0 0, .int .i64 0, .bool false] 58)))
  clear hx
  go_enter Try.func6, Try.ntmps6
  go_wp2_with (first | (go_at_call 22; refine K22.out.mono ?_; rintro e w' ⟨rfl, rfl⟩) | (go_at_call 18; refine K18.out.mono ?_; rintro e w' ⟨rfl, rfl⟩) | (go_at_call 21; refine K21.out.mono ?_; rintro e w' ⟨rfl, rfl⟩) | (go_at_call 23; refine K23.out.mono ?_; rintro e w' ⟨rfl, rfl⟩) | (go_at_call 16; refine K16.out.mono ?_; rintro e w' ⟨rfl, rfl⟩) | (go_at_call 17; refine K17.out.mono ?_; rintro e w' ⟨rfl, rfl⟩) | (go_at_call 20; refine K20.out.mono ?_; rintro e w' ⟨rfl, rfl⟩) | (go_at_call 25; refine K25.out.mono ?_; rintro e w' ⟨rfl, rfl⟩) | (go_at_call 24; refine K24.out.mono ?_; rintro e w' ⟨rfl, rfl⟩) | (go_at_call 11; refine K11.out.mono ?_; rintro e w' ⟨rfl, rfl⟩) | (go_at_call 8; refine K8.out.mono ?_; rintro e w' ⟨rfl, hb⟩))
  go_ret
  exact ⟨rfl, HB0.out.trans (hb.mono (by simp))⟩
theorem nil6 (i : Int) (s : ByteArray) (m : Bool) (w : World) :
    Calls Try.prog 6 #[.int .i64 i, .string s, .bool m] w fun e w' => e = .returned (.bool true) ∧ Below w.heap.size w w' := by
  by_cases hs : 200 < s.size
  · exact nil6_big i s m w hs
  · cases m with
    | false => exact nil6_nil i s w (by omega)
    | true => exact nil6_zero i s w (by omega)
end Go.Proofs.Ytikbkeckkdkkbaa
