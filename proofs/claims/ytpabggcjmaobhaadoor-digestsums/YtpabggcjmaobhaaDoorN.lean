/-
  Hex and Unhex are inverse; DigestBack's walk.
-/
import Derived.Test.YtpabggcjmaobhaaDoorL
import Derived.Test.YtpabggcjmaobhaaDoorM
namespace Go.Proofs.YtpabggcjmaobhaaDoor
open Go.RowKit

theorem digit_hexD (n : Nat) (h : n < 16) : digit (hexD n) = some n := by
  have : ∀ k : Fin 16, digit (hexD k.val) = some k.val := by decide +kernel
  exact this ⟨n, h⟩
theorem hexD_digit (c : UInt8) (n : Nat) (h : digit c = some n) : hexD n = c := by
  have : ∀ k : Fin 256, ∀ m : Fin 16, digit (UInt8.ofNat k.val) = some m.val → hexD m.val = UInt8.ofNat k.val := by decide +kernel
  have hc : UInt8.ofNat c.toNat = c := by simp
  have := this ⟨c.toNat, c.toNat_lt⟩ ⟨n, digit_lt c n h⟩ (by show digit (UInt8.ofNat c.toNat) = _; rw [hc]; exact h)
  rw [← hc]
  exact this
theorem unhex_hex : ∀ l : List UInt8, unhexL (hexL l) = some l
  | [] => rfl
  | a :: l => by
    have e : hexL (a :: l) = hexD (a.toNat / 16) :: hexD (a.toNat % 16) :: hexL l := rfl
    have ha := a.toNat_lt
    rw [e, unhexL_some _ _ _ _ _ (digit_hexD _ (by omega)) (digit_hexD _ (by omega)), unhex_hex l]
    have : 16 * (a.toNat / 16) + a.toNat % 16 = a.toNat := by omega
    rw [this]
    simp
theorem hex_unhex : ∀ (l u : List UInt8), unhexL l = some u → hexL u = l
  | [], u, h => by
    have : u = [] := by simpa [unhexL] using h.symm
    subst this; rfl
  | [_], u, h => by cases h
  | a :: b :: r, u, h => by
    cases ha : digit a with
    | none => rw [unhexL_none a b r (Or.inl ha)] at h; cases h
    | some x =>
      cases hb : digit b with
      | none => rw [unhexL_none a b r (Or.inr hb)] at h; cases h
      | some y =>
        rw [unhexL_some a b r x y ha hb] at h
        cases hr : unhexL r with
        | none => rw [hr] at h; cases h
        | some v =>
          rw [hr] at h
          have hx := digit_lt a x ha
          have hy := digit_lt b y hb
          have hu : u = UInt8.ofNat (16 * x + y) :: v := by simpa using h.symm
          subst hu
          have e : (UInt8.ofNat (16 * x + y)).toNat = 16 * x + y := by rw [UInt8.toNat_ofNat']; omega
          show hexD ((UInt8.ofNat (16 * x + y)).toNat / 16) :: hexD ((UInt8.ofNat (16 * x + y)).toNat % 16) :: hexL v = _
          rw [e, show (16 * x + y) / 16 = x by omega, show (16 * x + y) % 16 = y by omega, hexD_digit a x ha, hexD_digit b y hb, hex_unhex r v hr]
theorem digestM_length (K : List Int) (I : St) (M : List UInt8) : (digestM K I M).length = 32 := by
  unfold digestM
  rw [by4_length]; rfl

theorem str_of (s : ByteArray) : ∃ l : List UInt8, s = ⟨l.toArray⟩ := ⟨s.data.toList, by cases s; simp⟩

set_option maxHeartbeats 800000 in
theorem back6 (s : ByteArray) (w : World) (hT : Tabs keysL initS w) : Calls Tryd.prog 6 #[.string s] w fun e w' => e = .returned (.bool true) ∧ Below w.heap.size w w' := by
  have HL := Lib.hid (fun W (h : Below w.heap.size w W) => lives8 W (hT.below h hT.two))
  obtain ⟨l, rfl⟩ := str_of s
  by_cases hlong : 3000 < l.length
  · go_enter Tryd.func6, Tryd.ntmps6
    go_wp2_with (go_at_call 8; refine (HL.out _ (Below.refl _ _)).mono ?_; rintro e w' ⟨rfl, hb⟩)
    go_ret
    exact ⟨rfl, hb⟩
  · have hle : l.length ≤ 3000 := by omega
    have hll := hexL_length l
    have HH : Hid (∀ W, Calls Tryd.prog 13 #[.string ⟨l.toArray⟩] W fun e w' => e = .returned (.string ⟨(hexL l).toArray⟩) ∧ Below W.heap.size W w') := fun W => hex13 ⟨l.toArray⟩ (by show l.length ≤ 400000; omega) W
    have HU : Hid (∀ W, Calls Tryd.prog 11 #[.string ⟨(hexL l).toArray⟩] W fun e w' => e = .returned (.tuple #[.string ⟨l.toArray⟩, .int .i64 0]) ∧ Below W.heap.size W w') := fun W => by
      have := unhex11 ⟨(hexL l).toArray⟩ (by show (hexL l).length ≤ 400000; omega) W
      have e : (⟨(hexL l).toArray⟩ : ByteArray).data.toList = hexL l := rfl
      rw [e, unhex_hex] at this
      exact this
    have HS : Hid (∀ W, Below w.heap.size w W → Calls Tryd.prog 9 #[.string ⟨l.toArray⟩] W fun e w' => e = .returned (.string ⟨(digestM keysL initS l).toArray⟩) ∧ Below W.heap.size W w') := fun W hB => sum9 keysL initS ⟨l.toArray⟩ W (hT.below hB hT.two) (by show l.length ≤ 900000; omega)
    have hdl := digestM_length keysL initS l
    have HU2 : Hid (∀ W, Calls Tryd.prog 11 #[.string ⟨l.toArray⟩] W fun e w' => e = .returned (unhexE (unhexL l)) ∧ Below W.heap.size W w') := fun W => unhex11 ⟨l.toArray⟩ (by show l.length ≤ 400000; omega) W
    generalize digestM keysL initS l = D at HS hdl
    have HX : Hid (∀ u, unhexL l = some u → ∀ W, Calls Tryd.prog 13 #[.string ⟨u.toArray⟩] W fun e w' => e = .returned (.string ⟨l.toArray⟩) ∧ Below W.heap.size W w') := fun u hu W => by
      have hlu := hex_unhex l u hu
      have hul := hexL_length u
      rw [hlu] at hul
      have := hex13 ⟨u.toArray⟩ (by show u.length ≤ 400000; omega) W
      have e : (⟨u.toArray⟩ : ByteArray).data.toList = u := rfl
      rw [e, hlu] at this
      exact this
    generalize hexL l = h at HH HU hll
    have t1 : ((h.length : Int) != 2 * (l.length : Int)) = false := by
      have : (h.length : Int) = 2 * (l.length : Int) := by omega
      simpa using this
    have t2 : ((D.length : Int) != 32) = false := by
      have : (D.length : Int) = 32 := by omega
      simpa using this
    clear hll hdl hT
    cases hu : unhexL l with
    | none =>
      have HU2 : Hid (∀ W, Calls Tryd.prog 11 #[.string ⟨l.toArray⟩] W fun e w' => e = .returned (.tuple #[.string ⟨#[]⟩, .int .i64 4]) ∧ Below W.heap.size W w') := fun W => by
        have := HU2.out W
        rw [hu] at this
        exact this
      clear HX hu
      go_enter Tryd.func6, Tryd.ntmps6
      go_wp2_with fail
      refine (HH.out _).mono ?_
      rintro e w1 ⟨rfl, b1⟩
      have B1 : Below w.heap.size w w1 := b1
      go_wp2_with fail
      refine (HU.out _).mono ?_
      rintro e w2 ⟨rfl, b2⟩
      have B2 : Below w.heap.size w w2 := B1.trans (b2.mono B1.size)
      go_wp2_with fail
      refine (HH.out _).mono ?_
      rintro e w3 ⟨rfl, b3⟩
      have B3 : Below w.heap.size w w3 := B2.trans (b3.mono B2.size)
      go_wp2_with fail
      refine (HS.out _ B3).mono ?_
      rintro e w4 ⟨rfl, b4⟩
      have B4 : Below w.heap.size w w4 := B3.trans (b4.mono B3.size)
      go_wp2_with fail
      refine (HU2.out _).mono ?_
      rintro e w5 ⟨rfl, b5⟩
      have B5 : Below w.heap.size w w5 := B4.trans (b5.mono B4.size)
      go_wp2_with fail
      refine (HL.out _ B5).mono ?_
      rintro e w7 ⟨rfl, b7⟩
      go_wp2
      go_ret
      exact ⟨rfl, B5.trans (b7.mono B5.size)⟩
    | some u =>
      have HU2 : Hid (∀ W, Calls Tryd.prog 11 #[.string ⟨l.toArray⟩] W fun e w' => e = .returned (.tuple #[.string ⟨u.toArray⟩, .int .i64 0]) ∧ Below W.heap.size W w') := fun W => by
        have := HU2.out W
        rw [hu] at this
        exact this
      have HX := Lib.hid (HX.out u hu)
      clear hu
      go_enter Tryd.func6, Tryd.ntmps6
      go_wp2_with fail
      refine (HH.out _).mono ?_
      rintro e w1 ⟨rfl, b1⟩
      have B1 : Below w.heap.size w w1 := b1
      go_wp2_with fail
      refine (HU.out _).mono ?_
      rintro e w2 ⟨rfl, b2⟩
      have B2 : Below w.heap.size w w2 := B1.trans (b2.mono B1.size)
      go_wp2_with fail
      refine (HH.out _).mono ?_
      rintro e w3 ⟨rfl, b3⟩
      have B3 : Below w.heap.size w w3 := B2.trans (b3.mono B2.size)
      go_wp2_with fail
      refine (HS.out _ B3).mono ?_
      rintro e w4 ⟨rfl, b4⟩
      have B4 : Below w.heap.size w w4 := B3.trans (b4.mono B3.size)
      go_wp2_with fail
      refine (HU2.out _).mono ?_
      rintro e w5 ⟨rfl, b5⟩
      have B5 : Below w.heap.size w w5 := B4.trans (b5.mono B4.size)
      go_wp2_with fail
      refine (HX.out _).mono ?_
      rintro e w6 ⟨rfl, b6⟩
      have B6 : Below w.heap.size w w6 := B5.trans (b6.mono B5.size)
      go_wp2_with fail
      refine (HL.out _ B6).mono ?_
      rintro e w7 ⟨rfl, b7⟩
      go_wp2
      go_ret
      exact ⟨rfl, B6.trans (b7.mono B6.size)⟩
end Go.Proofs.YtpabggcjmaobhaaDoor
