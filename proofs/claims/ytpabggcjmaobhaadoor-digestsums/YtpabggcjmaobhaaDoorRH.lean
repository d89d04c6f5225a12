/-
  DigestSums' walk.
-/
import Derived.Test.YtpabggcjmaobhaaDoorRF
import Derived.Test.YtpabggcjmaobhaaDoorRG
namespace Go.Proofs.YtpabggcjmaobhaaDoor
open Go.RowKit

theorem padL_mod (N : Nat) : (N + (padL N).length) % 64 = 0 := by
  have h : (padL N).length = 1 + padN N + 8 := by simp [padL, len8To]; omega
  rw [h]; unfold padN; omega

theorem refPadded19 (l : List UInt8) (hl : l.length ≤ 3000) (w : World) :
    Calls Tryd.prog 19 #[.string ⟨l.toArray⟩] w fun e w' => e = .returned (.string ⟨(l ++ padL l.length).toArray⟩) ∧ Below w.heap.size w w' := by
  have hn : padN l.length ≤ 64 := by unfold padN; omega
  obtain ⟨ZC, hZC, hM⟩ := made_row (padN l.length) hn
  have h8 := len8_eq l.length hl
  have e4 : ((l ++ [128]) ++ List.replicate (padN l.length) 0 ++ by4 (IntKind.u32.wrap (IntKind.u64.wrap (l.length : Int) / 536870912))) ++ by4 (IntKind.u32.wrap (IntKind.u64.wrap (IntKind.u64.wrap (l.length : Int) * 8))) = l ++ padL l.length := by
    unfold padL
    rw [← h8]
    simp
  rw [← e4]
  refine refPadded19_core l (l ++ [128]) (l ++ [128] ++ List.replicate (padN l.length) 0) (l ++ [128] ++ List.replicate (padN l.length) 0 ++ by4 (IntKind.u32.wrap (IntKind.u64.wrap (l.length : Int) / 536870912))) _
    (by4 (IntKind.u32.wrap (IntKind.u64.wrap (l.length : Int) / 536870912))) (by4 (IntKind.u32.wrap (IntKind.u64.wrap (IntKind.u64.wrap (l.length : Int) * 8)))) (List.replicate (padN l.length) 0) (padN l.length) ZC
    (bytesV (by4 (IntKind.u32.wrap (IntKind.u64.wrap (l.length : Int) / 536870912)))).toArray (bytesV (by4 (IntKind.u32.wrap (IntKind.u64.wrap (IntKind.u64.wrap (l.length : Int) * 8))))).toArray w hl hn ?_ ?_ hM ?_ ?_
    (cat_str _ _ _ rfl) (cat_str _ _ _ rfl) (cat_str _ _ _ rfl) (cat_str _ _ _ rfl) ?_ ?_ ?_ ?_ ?_ ?_ (fun W => bytes21x _ W) (fun W => bytes21x _ W)
  · unfold padN; omega
  · unfold padN; omega
  · exact fun W g h => conv_row W g 1 [128] rfl _ rfl h (by omega)
  · exact fun W g h => conv_row W g (padN l.length) (List.replicate (padN l.length) 0) (by simp) ZC hZC h (by omega)
  · simp; omega
  · simp; omega
  · simp [by4]; omega
  · simp; omega
  · simp [by4]
  · simp [by4]

set_option maxHeartbeats 800000 in
theorem sums3 (s : ByteArray) (w : World) (hT : Tabs keysL initS w) : Calls Tryd.prog 3 #[.string s] w fun e w' => e = .returned (.bool true) ∧ Below w.heap.size w w' := by
  have HL := Lib.hid (fun W (h : Below w.heap.size w W) => lives8 W (hT.below h hT.two))
  obtain ⟨l, rfl⟩ := str_of s
  by_cases hlong : 3000 < l.length
  · go_enter Tryd.func3, Tryd.ntmps3
    go_wp2_with (go_at_call 8; refine (HL.out _ (Below.refl _ _)).mono ?_; rintro e w' ⟨rfl, hb⟩)
    go_ret
    exact ⟨rfl, hb⟩
  · have hle : l.length ≤ 3000 := by omega
    have HS : Hid (∀ W, Below w.heap.size w W → Calls Tryd.prog 9 #[.string ⟨l.toArray⟩] W fun e w' => e = .returned (.string ⟨(digestM keysL initS l).toArray⟩) ∧ Below W.heap.size W w') := fun W hB => sum9 keysL initS ⟨l.toArray⟩ W (hT.below hB hT.two) (by show l.length ≤ 900000; omega)
    have HR : Hid (∀ W, Calls Tryd.prog 10 #[.string ⟨l.toArray⟩] W fun e w' => e = .returned (.string ⟨(digestM keysL initS l).toArray⟩) ∧ Below W.heap.size W w') := fun W =>
      refSum10 l (l ++ padL l.length) (fun W => refPadded19 l hle W) (by have := padL_length l.length; rw [List.length_append]; omega) (by rw [List.length_append]; exact padL_mod _) W
    generalize digestM keysL initS l = D at HS HR
    clear hT
    go_enter Tryd.func3, Tryd.ntmps3
    go_wp2_with fail
    refine (HS.out _ (Below.refl _ _)).mono ?_
    rintro e w1 ⟨rfl, b1⟩
    go_wp2_with fail
    refine (HR.out _).mono ?_
    rintro e w2 ⟨rfl, b2⟩
    have B2 : Below w.heap.size w w2 := b1.trans (b2.mono b1.size)
    go_wp2_with fail
    refine (HL.out _ B2).mono ?_
    rintro e w3 ⟨rfl, b3⟩
    go_wp2
    go_ret
    exact ⟨rfl, B2.trans (b3.mono B2.size)⟩
end Go.Proofs.YtpabggcjmaobhaaDoor
