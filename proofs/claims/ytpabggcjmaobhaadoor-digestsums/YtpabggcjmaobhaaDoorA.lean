import Derived.Test.YtpabggcjmaobhaaDoorRows
import Derived.WalkKit
import Derived.WalkSpells
import Derived.WalkLawsBesides
import Derived.Lib.Hide
import Derived.Deep.QuietTactic
import Derived.BigQuiet
import Derived.Test.YtpabggcjmaobhaaDoorP
namespace Go.Proofs.YtpabggcjmaobhaaDoor
open Go.RowKit

set_option maxHeartbeats 400000 in
theorem rotate32 (x n : Int) (h0 : 0 ≤ n) (h1 : n ≤ 31) (w : World) :
    Calls Tryd.prog 32 #[.int .u32 x, .int .i64 n] w fun e w' => e = .returned (.int .u32 (rotM x n)) ∧ ∃ m, w' = w.drewN m := by
  go_enter Tryd.func32, Tryd.ntmps32
  go_wp2
  go_quiet (fail)
  go_wp2
  go_ret
  exact ⟨rfl, _, rfl⟩

set_option maxHeartbeats 400000 in
theorem rot29 (x n : Int) (h0 : 0 ≤ n) (h1 : n ≤ 31) (w : World) :
    Calls Tryd.prog 29 #[.int .u32 x, .int .i64 n] w fun e w' => e = .returned (.int .u32 (rotM x n)) ∧ ∃ m, w' = w.drewN m := by
  go_enter Tryd.func29, Tryd.ntmps29
  go_wp2
  go_quiet (fail)
  go_wp2
  go_ret
  exact ⟨rfl, _, rfl⟩

set_option maxHeartbeats 400000 in
theorem number33 (s : ByteArray) (i : Nat) (hi : i + 4 ≤ s.size) (hs : s.size < 9000000) (w : World) :
    Calls Tryd.prog 33 #[.string s, .int .i64 i] w fun e w' => e = .returned (.int .u32 (num4 (s.data.toList.getD i 0) (s.data.toList.getD (i + 1) 0) (s.data.toList.getD (i + 2) 0) (s.data.toList.getD (i + 3) 0))) ∧ ∃ m, w' = w.drewN m := by
  obtain ⟨i1, hi1⟩ : ∃ k, k = i + 1 := ⟨_, rfl⟩
  obtain ⟨i2, hi2⟩ : ∃ k, k = i + 2 := ⟨_, rfl⟩
  obtain ⟨i3, hi3⟩ : ∃ k, k = i + 3 := ⟨_, rfl⟩
  have h1 : (i : Int) < s.size := by omega
  have h2 : (i1 : Int) < s.size := by omega
  have h3 : (i2 : Int) < s.size := by omega
  have h4 : (i3 : Int) < s.size := by omega
  have e1 : IntKind.i64.wrap ((i : Int) + 1) = i1 := by rw [IntKind.wrap_i64]; omega
  have e2 : IntKind.i64.wrap ((i : Int) + 2) = i2 := by rw [IntKind.wrap_i64]; omega
  have e3 : IntKind.i64.wrap ((i : Int) + 3) = i3 := by rw [IntKind.wrap_i64]; omega
  have H1 := Lib.hid hi1
  have H2 := Lib.hid hi2
  have H3 := Lib.hid hi3
  clear hi1 hi2 hi3 hi
  go_enter Tryd.func33, Tryd.ntmps33
  go_wp2
  go_quiet (fail)
  go_wp2
  go_ret
  refine ⟨?_, _, rfl⟩
  have hg : ∀ (j : Nat) (hj : j < s.size), s.data.toList.getD j 0 = s[j] := fun j hj => by
    have : j < s.data.toList.length := by simpa using hj
    rw [List.getD_eq_getElem?_getD, List.getElem?_eq_getElem this]
    rfl
  rw [← H1.out, ← H2.out, ← H3.out, hg i (by omega), hg i1 (by omega), hg i2 (by omega), hg i3 (by omega)]
  rfl
set_option maxHeartbeats 400000 in
theorem exists24 (b : Nat) (m : Bool) (w : World) (h : w.cell? ⟨b, 0, none⟩ = some (.bool m)) :
    Calls Tryd.prog 24 #[.pointer (some ⟨b, 0, none⟩)] w fun e w' => e = .returned (.bool m) ∧ w = w' := by
  go_enter Tryd.func24, Tryd.ntmps24
  go_wp2
  go_ret
  exact ⟨rfl, rfl⟩
set_option maxHeartbeats 400000 in
theorem exists24n (w : World)  :
    Calls Tryd.prog 24 #[.pointer none] w fun e w' => e = .returned (.bool false) ∧ w = w' := by
  go_enter Tryd.func24, Tryd.ntmps24
  go_wp2
  go_ret
  exact ⟨rfl, rfl⟩
end Go.Proofs.YtpabggcjmaobhaaDoor
