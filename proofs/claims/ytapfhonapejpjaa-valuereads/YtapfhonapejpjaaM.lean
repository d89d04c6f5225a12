import Derived.Test.YtapfhonapejpjaaL
namespace Go.Proofs.Ytapfhonapejpjaa
open Go.RowKit

theorem pr1 : parseR [34, 97, 92, 110, 34] = ⟨2, 0, ⟨#[97, 10]⟩, 5, 0⟩ := by kernel_rfl
theorem pr2 : parseR [48, 48, 55] = ⟨0, 0, ⟨#[]⟩, 1, 4⟩ := by kernel_rfl
theorem pr3 : parseR [34, 97] = ⟨0, 0, ⟨#[]⟩, 2, 3⟩ := by kernel_rfl
theorem tx1 : textR 1 (-7) ⟨#[]⟩ = ([45, 55], 0) := by
  have hv : validV 1 (-7) ⟨#[]⟩ = true := by rw [validV, ByteArray.toList_eq]; rfl
  rw [textR, if_pos hv, if_neg (by omega)]
  have : digs 7 = [55] := by rw [digs_small (by omega)]; rfl
  rw [intText, if_pos (by omega), show (-7 : Int).natAbs = 7 from rfl, this]

set_option maxHeartbeats 800000 in
theorem lives9 (w : World) : Calls Try.prog 9 #[] w fun e w' => e = .returned (.bool true) ∧ Below w.heap.size w w' := by
  have HT := Lib.hid (fun w => text10 1 (-7) ⟨#[]⟩ w (by omega) (by omega))
  have HP1 := Lib.hid (fun w => parse20 ⟨#[34, 97, 92, 110, 34]⟩ w)
  have HP2 := Lib.hid (fun w => parse20 ⟨#[48, 48, 55]⟩ w)
  have HP3 := Lib.hid (fun w => parse20 ⟨#[34, 97]⟩ w)
  rw [tx1] at HT
  rw [show parseR (⟨#[34, 97, 92, 110, 34]⟩ : ByteArray).data.toList = _ from pr1] at HP1
  rw [show parseR (⟨#[48, 48, 55]⟩ : ByteArray).data.toList = _ from pr2] at HP2
  rw [show parseR (⟨#[34, 97]⟩ : ByteArray).data.toList = _ from pr3] at HP3
  simp only [pVal] at HP1 HP2 HP3
  go_enter Try.func9, Try.ntmps9
  go_wp2_with fail
  refine (HT.out _).mono ?_
  rintro e w1 ⟨rfl, hb1⟩
  go_wp2_with fail
  refine (HP1.out _).mono ?_
  rintro e w2 ⟨rfl, hb2⟩
  go_wp2_with fail
  refine (HP2.out _).mono ?_
  rintro e w3 ⟨rfl, hb3⟩
  have h23 : w2.heap.size < w3.heap.size := by have := hb3.size; simp at this; omega
  have p0 : w3.cell? ⟨w2.heap.size, 0, none⟩ = some (.int .i64 2) := by rw [hb3.cell (by simp)]; simp [go_sem]
  have p1 : w3.cell? ⟨w2.heap.size, 1, none⟩ = some (.int .i64 0) := by rw [hb3.cell (by simp)]; simp [go_sem]
  have p2 : w3.cell? ⟨w2.heap.size, 2, none⟩ = some (.string ⟨#[97, 10]⟩) := by rw [hb3.cell (by simp)]; simp [go_sem]
  have hbw3 : Below w.heap.size w w3 := (hb1.trans (hb2.mono hb1.size)).trans (((Below.refl w.heap.size w2).alloc (Nat.le_trans hb1.size hb2.size) _).trans (hb3.mono (by have := hb1.size; have := hb2.size; simp; omega)))
  clear hb1 hb2 hb3
  go_wp2_with fail
  refine (HP3.out _).mono ?_
  rintro e w4 ⟨rfl, hb4⟩
  have h34 : w3.heap.size < w4.heap.size := by have := hb4.size; simp at this; omega
  have q0 : w4.cell? ⟨w2.heap.size, 0, none⟩ = some (.int .i64 2) := by rw [hb4.cell (by simp; omega), World.cell?_alloc_past _ _ _ h23]; exact p0
  have q1 : w4.cell? ⟨w2.heap.size, 1, none⟩ = some (.int .i64 0) := by rw [hb4.cell (by simp; omega), World.cell?_alloc_past _ _ _ h23]; exact p1
  have q2 : w4.cell? ⟨w2.heap.size, 2, none⟩ = some (.string ⟨#[97, 10]⟩) := by rw [hb4.cell (by simp; omega), World.cell?_alloc_past _ _ _ h23]; exact p2
  have hbw4 : Below w.heap.size w w4 := hbw3.trans (((Below.refl w.heap.size w3).alloc hbw3.size _).trans (hb4.mono (by have := hbw3.size; simp; omega)))
  clear hb4 p0 p1 p2 hbw3
  have h24 : w2.heap.size < w4.heap.size := by omega
  go_wp2
  go_ret
  exact ⟨rfl, hbw4.alloc hbw4.size _⟩
end Go.Proofs.Ytapfhonapejpjaa
