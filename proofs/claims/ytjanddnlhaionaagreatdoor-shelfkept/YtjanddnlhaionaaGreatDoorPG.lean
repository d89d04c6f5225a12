/-
  The round trip, plain; the contract of the law's lives. No condition but the package's tables.
-/
import Derived.Test.YtjanddnlhaionaaGreatDoorPD
import Derived.Test.YtjanddnlhaionaaGreatDoorPE
import Derived.Test.YtjanddnlhaionaaGreatDoorPF
namespace Go.Proofs.YtjanddnlhaionaaGreatDoor
open Go.RowKit
open L4 (C LAt putS takeM encC okC)
open L2 (Row Vl RowsAt rowsOK valOK)
open L3 (St Tabs digestM)

set_option maxRecDepth 100000 in
theorem obj_take {o : Ob} (hok : objOK o = true) (hn : ∀ r ∈ o.rows, -9223372036854775808 ≤ r.2.2.2.1 ∧ r.2.2.2.1 ≤ 9223372036854775807) (hf : ∀ k ∈ o.kids, 0 ≤ k.f ∧ k.f ≤ 255) : takeOM (objS o) = (o, 0) := by
  have hk : o.kids.length ≤ 500 := by
    rcases obj_p hok with q | q
    · have := kids_256 q.kids hf; omega
    · rw [q.kids]; simp
  have hg := obj_good hok hn hf hk
  have ht := L4.take_put hg.ok hg.fit
  unfold objS
  rw [hok]
  show takeOM (putS (cellOf o)) = (o, 0)
  unfold takeOM
  rw [ht]
  simp only
  rw [if_pos trivial, obj_read hok hf]
  simp only
  rw [hok]; rfl
set_option maxRecDepth 100000 in
theorem take_back {s : ByteArray} {p : Ob} (h : takeOM s = (p, 0)) : objOK p = true ∧ objS p = s := by
  unfold takeOM at h
  by_cases h1 : (takeM s).2 = 0
  · rw [if_pos h1] at h
    have ht : takeM s = ((takeM s).1, 0) := Prod.ext rfl h1
    obtain ⟨a, b, c⟩ := take_ok ht
    cases hm : objM (takeM s).1 with
    | none => rw [hm] at h; injection h with _ h; cases h
    | some o =>
      rw [hm] at h
      simp only at h
      cases hok : objOK o with
      | false => rw [hok] at h; injection h with _ h; cases h
      | true =>
        rw [hok] at h
        injection h with h _
        subst h
        refine ⟨hok, ?_⟩
        unfold objS
        rw [hok]
        show putS (cellOf o) = s
        rw [← (obj_back hm hok).1]
        exact c
  · rw [if_neg h1] at h
    injection h with _ h
    exact absurd h h1
set_option maxRecDepth 100000 in
theorem take_zero {s : ByteArray} {p : Ob} {e : Int} (h : takeOM s = (p, e)) (he : e ≠ 0) : p = zeroO := by
  unfold takeOM at h
  by_cases h1 : (takeM s).2 = 0
  · rw [if_pos h1] at h
    cases hm : objM (takeM s).1 with
    | none => rw [hm] at h; injection h with h _; exact h.symm
    | some o =>
      rw [hm] at h
      simp only at h
      cases hok : objOK o with
      | false => rw [hok] at h; injection h with h _; exact h.symm
      | true => rw [hok] at h; injection h with _ h; exact absurd h.symm he
  · rw [if_neg h1] at h
    injection h with h _
    exact h.symm

def exOb : Ob := ⟨1, ⟨#[]⟩, [], [], [], 0, ⟨#[]⟩, ⟨#[]⟩⟩
set_option maxRecDepth 100000 in
theorem ex_ok : objOK exOb = true := by
  unfold objOK nodeOK exOb
  simp only [empty_list]
  rfl
set_option maxRecDepth 100000 in
theorem ex_nr : ∀ r ∈ exOb.rows, -9223372036854775808 ≤ r.2.2.2.1 ∧ r.2.2.2.1 ≤ 9223372036854775807 := by intro r hr; cases hr
set_option maxRecDepth 100000 in
theorem ex_kf : ∀ k ∈ exOb.kids, 0 ≤ k.f ∧ k.f ≤ 255 := by intro r hr; cases hr
set_option maxRecDepth 100000 in
theorem ex_enc : encC 16 (cellOf exOb) = [65, 4, 17, 1, 48, 64, 64] := by decide +kernel
set_option maxRecDepth 100000 in
theorem ex_put : objS exOb = ⟨#[65, 4, 17, 1, 48, 64, 64]⟩ := by
  have hg := obj_good ex_ok ex_nr ex_kf (by decide)
  unfold objS
  rw [ex_ok]
  show putS (cellOf exOb) = _
  unfold putS
  rw [if_pos hg.ok, ex_enc]
set_option maxRecDepth 100000 in
theorem ex_take : takeOM ⟨#[65, 4, 17, 1, 48, 64, 64]⟩ = (exOb, 0) := by rw [← ex_put]; exact obj_take ex_ok ex_nr ex_kf
set_option maxRecDepth 100000 in
theorem ex_at (w : World) : ObAt w (.slice none 0 0) (.slice none 0 0) (.slice none 0 0) exOb :=
  ⟨rowsNil _ _, KidsAt.nil _ _, TxtsAt.nil _ _, by show (-9223372036854775808 : Int) ≤ 0; omega, by show (0 : Int) ≤ _; omega, by intro r hr; cases hr⟩
set_option maxRecDepth 100000 in
theorem id_size (K : List Int) (I : St) (s : ByteArray) : (idOf K I s).size = 32 := by
  unfold idOf
  show (digestM K I s.data.toList).toArray.size = 32
  rw [List.size_toArray, L3.digestM_length]

set_option maxRecDepth 100000 in
set_option maxHeartbeats 4000000 in
theorem lives6 (K : List Int) (I : St) (w : World) (hT : Tabs K I w) : Calls Tryz.prog 10 #[] w fun e w' => e = .returned (.bool true) ∧ Below w.heap.size w w' := by
  have HP : Hid (Calls Tryz.prog 11 #[.agg #[.int .i64 1, .string ⟨#[]⟩, .slice none 0 0, .slice none 0 0, .slice none 0 0, .int .i64 0, .string ⟨#[]⟩, .string ⟨#[]⟩]] w fun e w' => e = .returned (.tuple #[.string ⟨#[65, 4, 17, 1, 48, 64, 64]⟩, .int .i64 0]) ∧ Below w.heap.size w w') := by
    have := put7 1 ⟨#[]⟩ [] [] [] 0 ⟨#[]⟩ ⟨#[]⟩ (.slice none 0 0) (.slice none 0 0) (.slice none 0 0) w (ex_at w)
    have e1 : objS ⟨1, ⟨#[]⟩, [], [], [], 0, ⟨#[]⟩, ⟨#[]⟩⟩ = ⟨#[65, 4, 17, 1, 48, 64, 64]⟩ := ex_put
    have e2 : objE ⟨1, ⟨#[]⟩, [], [], [], 0, ⟨#[]⟩, ⟨#[]⟩⟩ = 0 := by unfold objE; rw [show objOK ⟨1, ⟨#[]⟩, [], [], [], 0, ⟨#[]⟩, ⟨#[]⟩⟩ = true from ex_ok]; rfl
    rw [e1, e2] at this
    exact this
  have HTK := Lib.hid (fun w2 => take8 ⟨#[65, 4, 17, 1, 48, 64, 64]⟩ w2 (by decide))
  rw [ex_take] at HTK
  have h2 := hT.two
  obtain ⟨i, hi⟩ : ∃ i, objI K I exOb = i := ⟨_, rfl⟩
  have hsz : i.size = 32 := by rw [← hi]; unfold objI; rw [ex_ok]; exact id_size K I _
  have HID : Hid (∀ (w2 : World) (r k p : Value), Below w.heap.size w w2 → ObAt w2 r k p exOb → Calls Tryz.prog 13 #[.agg #[.int .i64 1, .string ⟨#[]⟩, r, k, p, .int .i64 0, .string ⟨#[]⟩, .string ⟨#[]⟩]] w2 fun e w' => e = .returned (.tuple #[.string i, .int .i64 0]) ∧ Below w2.heap.size w2 w') := by
    intro w2 r k p hb ho
    have := id9 K I 1 ⟨#[]⟩ [] [] [] 0 ⟨#[]⟩ ⟨#[]⟩ r k p w2 ho (hT.below hb h2)
    have e1 : objI K I ⟨1, ⟨#[]⟩, [], [], [], 0, ⟨#[]⟩, ⟨#[]⟩⟩ = i := hi
    have e2 : objE ⟨1, ⟨#[]⟩, [], [], [], 0, ⟨#[]⟩, ⟨#[]⟩⟩ = 0 := by unfold objE; rw [show objOK ⟨1, ⟨#[]⟩, [], [], [], 0, ⟨#[]⟩, ⟨#[]⟩⟩ = true from ex_ok]; rfl
    rw [e1, e2] at this
    exact this
  have HSM : Hid (∀ (w2 : World) (r k p : Value), ObAt w2 r k p exOb → Calls Tryz.prog 22 #[.agg #[.int .i64 1, .string ⟨#[]⟩, r, k, p, .int .i64 0, .string ⟨#[]⟩, .string ⟨#[]⟩], .agg #[.int .i64 1, .string ⟨#[]⟩, .slice none 0 0, .slice none 0 0, .slice none 0 0, .int .i64 0, .string ⟨#[]⟩, .string ⟨#[]⟩]] w2 fun e w' => e = .returned (.bool true) ∧ Below w2.heap.size w2 w') :=
    fun w2 r k p ho => same10 1 ⟨#[]⟩ [] [] [] 0 ⟨#[]⟩ ⟨#[]⟩ r k p _ _ _ w2 ho (ex_at w2)
  clear hi hT h2
  go_enter Tryz.func10, Tryz.ntmps10
  go_wp2_with fail
  refine HP.out.mono ?_
  rintro _ w1 ⟨rfl, hb1⟩
  have HB1 := Lib.hid hb1
  clear hb1 HP
  go_wp2_with fail
  refine (HTK.out _).mono ?_
  rintro _ w2 ⟨hb2, A1, n1, c1, A2, n2, c2, A3, n3, c3, rfl, hat⟩
  have hba : Below w2.heap.size w2 (w2.alloc (.cells #[.int .i64 1, .string ⟨#[]⟩, .slice A1 n1 c1, .slice A2 n2 c2, .slice A3 n3 c3, .int .i64 0, .string ⟨#[]⟩, .string ⟨#[]⟩] 27)) := (Below.refl _ _).alloc (Nat.le_refl _) _
  have HB2 := Lib.hid (HB1.out.trans (hb2.mono HB1.out.size))
  have HBA := Lib.hid (HB2.out.trans (hba.mono HB2.out.size))
  have HAT := Lib.hid (hat.step hba)
  have HI := Lib.hid (HID.out _ _ _ _ HBA.out HAT.out)
  have HA0 := Lib.hid (heap_alloc_new w2 (.cells #[.int .i64 1, .string ⟨#[]⟩, .slice A1 n1 c1, .slice A2 n2 c2, .slice A3 n3 c3, .int .i64 0, .string ⟨#[]⟩, .string ⟨#[]⟩] 27))
  clear hb2 hat hba HTK HB1 HID
  unfold exOb
  simp only
  go_wp2_with fail
  refine HI.out.mono ?_
  rintro _ w3 ⟨rfl, hb3⟩
  have HB3 := Lib.hid (HBA.out.trans (hb3.mono HBA.out.size))
  have HAT3 := Lib.hid (HAT.out.step hb3)
  have hr3 := (hb3.block w2.heap.size (by simp)).trans HA0.out
  have y0 := cell_of_row w3 w2.heap.size 0 _ 27 (0, 0) hr3
  have y1 := cell_of_row w3 w2.heap.size 1 _ 27 (0, 0) hr3
  have y2 := cell_of_row w3 w2.heap.size 2 _ 27 (0, 0) hr3
  have y3 := cell_of_row w3 w2.heap.size 3 _ 27 (0, 0) hr3
  have y4 := cell_of_row w3 w2.heap.size 4 _ 27 (0, 0) hr3
  have y5 := cell_of_row w3 w2.heap.size 5 _ 27 (0, 0) hr3
  have y6 := cell_of_row w3 w2.heap.size 6 _ 27 (0, 0) hr3
  have y7 := cell_of_row w3 w2.heap.size 7 _ 27 (0, 0) hr3
  have HS := Lib.hid (HSM.out w3 _ _ _ HAT3.out)
  clear hb3 hr3 HAT HAT3 HI HSM HA0 HBA HB2
  go_wp2_with (go_at_call 22; refine HS.out.mono ?_; rintro _ w4 ⟨rfl, hb4⟩)
  go_ret
  exact ⟨rfl, HB3.out.trans (hb4.mono HB3.out.size)⟩
end Go.Proofs.YtjanddnlhaionaaGreatDoor
