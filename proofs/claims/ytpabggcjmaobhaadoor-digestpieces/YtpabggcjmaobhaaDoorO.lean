/-
  DigestPieces' walk.
-/
import Derived.Test.YtpabggcjmaobhaaDoorN
namespace Go.Proofs.YtpabggcjmaobhaaDoor
open Go.RowKit

/-- A slice of strings, as it lies. -/
def StrsAt (w : World) (v : Value) (l : List (List UInt8)) : Prop :=
  ∃ A cap, v = .slice A l.length cap ∧ (0 < l.length → ∃ b o, A = some ⟨b, o, none⟩ ∧ b < w.heap.size ∧ ∀ i (_ : i < l.length), w.cell? ⟨b, o + i, none⟩ = some (.string ⟨(l.getD i []).toArray⟩))

set_option maxRecDepth 100000 in
set_option maxHeartbeats 1600000 in
theorem pieces5 (l : List (List UInt8)) (lv : Value) (w : World) (hT : Tabs keysL initS w) (hl : StrsAt w lv l) : Calls Tryd.prog 5 #[lv] w fun e w' => e = .returned (.bool true) ∧ Below w.heap.size w w' := by
  have HL := Lib.hid (fun W (h : Below w.heap.size w W) => lives8 W (hT.below h hT.two))
  have hT2 := hT.two
  have HN := Lib.hid (new15 keysL initS w hT.init)
  have HT := Lib.hid hT
  obtain ⟨A, cap, rfl, hcells⟩ := hl
  clear hT
  by_cases hlong : 100 < l.length
  · go_enter Tryd.func5, Tryd.ntmps5
    go_wp2_with (go_at_call 8; refine (HL.out _ (Below.refl _ _)).mono ?_; rintro e w' ⟨rfl, hb⟩)
    go_ret
    exact ⟨rfl, hb⟩
  · have hle : l.length ≤ 100 := by omega
    have HP : Hid (∀ (M : List UInt8) (x : List UInt8) (W : World), Below w.heap.size w W → HashAt keysL initS w.heap.size M W → M.length + x.length ≤ 900000 → Calls Tryd.prog 16 #[.pointer (some ⟨w.heap.size, 0, none⟩), .string ⟨x.toArray⟩] W fun e w' => e = .returned (.int .i64 0) ∧ HashAt keysL initS w.heap.size (M ++ x) w' ∧ Below w.heap.size W w') :=
      fun M x W hB hH hx => put16 keysL initS w.heap.size M ⟨x.toArray⟩ W (HT.out.keys.below hB hT2) hT2 hH (by show M.length + x.length ≤ 1000000; omega)
    have HS17 : Hid (∀ (M : List UInt8) (W : World), Below w.heap.size w W → HashAt keysL initS w.heap.size M W → M.length ≤ 900000 → Calls Tryd.prog 17 #[.pointer (some ⟨w.heap.size, 0, none⟩)] W fun e w' => e = .returned (.string ⟨(digestM keysL initS M).toArray⟩) ∧ Below W.heap.size W w') :=
      fun M W hB hH hx => sum17 keysL initS w.heap.size M W (HT.out.keys.below hB hT2) hT2 hH hx
    have HS9 : Hid (∀ (M : List UInt8) (W : World), Below w.heap.size w W → M.length ≤ 900000 → Calls Tryd.prog 9 #[.string ⟨M.toArray⟩] W fun e w' => e = .returned (.string ⟨(digestM keysL initS M).toArray⟩) ∧ Below W.heap.size W w') :=
      fun M W hB hx => sum9 keysL initS ⟨M.toArray⟩ W (HT.out.below hB hT2) hx
    have HLN : Hid (∀ (M : List UInt8) (W : World), HashAt keysL initS w.heap.size M W → Calls Tryd.prog 18 #[.pointer (some ⟨w.heap.size, 0, none⟩)] W fun e w' => e = .returned (.int .i64 (M.length : Int)) ∧ W = w') :=
      fun M W hH => len18 keysL initS w.heap.size M W hH
    generalize digestM keysL initS = DM at HS17 HS9
    have HCL := Lib.hid hcells
    clear hcells HT hlong
    go_enter Tryd.func5, Tryd.ntmps5
    go_wp2_with fail
    refine HN.out.mono ?_
    rintro e w1 ⟨rfl, hh1, hb1⟩
    have HH1 := Lib.hid hh1
    have HB1 := Lib.hid hb1
    clear hh1 hb1 HN
    go_wp2_with fail
    go_loopw [4, 5] (fun s4 s5 wr => ∃ (k : Nat) (M : List UInt8), k ≤ l.length ∧ s5 = .int .i64 k ∧ s4 = .string ⟨M.toArray⟩ ∧ M.length ≤ 22000 ∧ Hid (HashAt keysL initS w.heap.size M wr) ∧ Hid (Below w.heap.size w wr)) (fun _ s5 _ => l.length - (intOf s5).toNat)
    case atStart => exact ⟨0, [], by omega, rfl, rfl, by simp, HH1, HB1⟩
    case round =>
      obtain ⟨k, M, hk, rfl, rfl, hM, HH, HB⟩ := hrel
      clear HH1 HB1
      by_cases hlt : k < l.length
      · obtain ⟨b, o, rfl, hb, hc⟩ := HCL.out (by omega)
        have ck := (HB.out.cell (p := ⟨b, o + k, none⟩) hb).trans (hc k hlt)
        clear hc HCL
        generalize l.getD k [] = x at ck
        have hki : (k : Int) < (l.length : Int) := by omega
        by_cases hbig : 2000 < x.length
        · go_wp2_with (go_at_call 8; refine (HL.out _ HB.out).mono ?_; rintro e w' ⟨rfl, hb⟩)
          go_ret
          exact ⟨rfl, HB.out.trans (hb.mono HB.out.size)⟩
        · by_cases hbig2 : 20000 < M.length
          · go_wp2_with (go_at_call 8; refine (HL.out _ HB.out).mono ?_; rintro e w' ⟨rfl, hb⟩)
            go_ret
            exact ⟨rfl, HB.out.trans (hb.mono HB.out.size)⟩
          · go_wp2_with fail
            refine (HP.out M x _ HB.out HH.out (by omega)).mono ?_
            rintro e w2 ⟨rfl, hh2, hb2⟩
            have ck2 : w2.cell? ⟨b, o + k, none⟩ = some (.string ⟨x.toArray⟩) := (hb2.cell (p := ⟨b, o + k, none⟩) hb).trans ck
            obtain ⟨Mx, hMx⟩ : ∃ Mx, M ++ x = Mx := ⟨_, rfl⟩
            have hcat : (⟨M.toArray⟩ : ByteArray) ++ ⟨x.toArray⟩ = ⟨Mx.toArray⟩ := by
              rw [← hMx]; apply ByteArray.ext; simp
            have hMl : Mx.length ≤ 22000 := by rw [← hMx, List.length_append]; omega
            rw [hMx] at hh2
            have HH2 := Lib.hid hh2
            have HB2 := Lib.hid (HB.out.trans hb2)
            clear hh2 hb2 HH HB ck hMx
            by_cases h3 : k % 3 = 1
            · have t3 : (((k : Int) % 3) == 1) = true := by
                have : (k : Int) % 3 = 1 := by omega
                simpa using this
              clear h3
              go_wp2_with fail
              refine (HS17.out Mx _ HB2.out HH2.out (by omega)).mono ?_
              rintro e w3 ⟨rfl, hb3⟩
              have HH3 : Hid (HashAt keysL initS w.heap.size Mx w3) := HH2.out.below hb3 HH2.out.lt
              have HB3 : Hid (Below w.heap.size w w3) := HB2.out.trans (hb3.mono HB2.out.size)
              clear hb3 HH2 HB2
              go_wp2_with fail
              refine (HS9.out Mx _ HB3.out (by omega)).mono ?_
              rintro e w4 ⟨rfl, hb4⟩
              have HH4 : Hid (HashAt keysL initS w.heap.size Mx w4) := HH3.out.below hb4 HH3.out.lt
              have HB4 : Hid (Below w.heap.size w w4) := HB3.out.trans (hb4.mono HB3.out.size)
              clear hb4 HH3 HB3
              go_wp2
              go_roundw
              case rel => exact ⟨k + 1, Mx, by omega, by go_num, rfl, hMl, HH4, HB4⟩
              case measure => simp [intOf]; omega
            · have t3 : (((k : Int) % 3) == 1) = false := by
                have : ¬ (k : Int) % 3 = 1 := by omega
                simpa using this
              clear h3
              go_wp2
              go_roundw
              case rel => exact ⟨k + 1, Mx, by omega, by go_num, rfl, hMl, HH2, HB2⟩
              case measure => simp [intOf]; omega
      · have hkl : ¬ (k : Int) < (l.length : Int) := by omega
        clear HCL
        go_wp2_with fail
        refine (HS17.out M _ HB.out HH.out (by omega)).mono ?_
        rintro e w3 ⟨rfl, hb3⟩
        have HH3 : Hid (HashAt keysL initS w.heap.size M w3) := HH.out.below hb3 HH.out.lt
        have HB3 : Hid (Below w.heap.size w w3) := HB.out.trans (hb3.mono HB.out.size)
        clear hb3
        go_wp2_with fail
        refine (HS9.out M _ HB3.out (by omega)).mono ?_
        rintro e w4 ⟨rfl, hb4⟩
        have HH4 : Hid (HashAt keysL initS w.heap.size M w4) := HH3.out.below hb4 HH3.out.lt
        have HB4 : Hid (Below w.heap.size w w4) := HB3.out.trans (hb4.mono HB3.out.size)
        clear hb4 HH3 HB3
        go_wp2_with fail
        refine (HLN.out M _ HH4.out).mono ?_
        rintro e w5 ⟨rfl, rfl⟩
        go_wp2_with fail
        refine (HS17.out M _ HB4.out HH4.out (by omega)).mono ?_
        rintro e w5 ⟨rfl, hb5⟩
        have HB5 : Hid (Below w.heap.size w w5) := HB4.out.trans (hb5.mono HB4.out.size)
        clear hb5
        go_wp2_with fail
        refine (HS9.out M _ HB5.out (by omega)).mono ?_
        rintro e w6 ⟨rfl, hb6⟩
        have HB6 : Hid (Below w.heap.size w w6) := HB5.out.trans (hb6.mono HB5.out.size)
        clear hb6
        go_wp2_with fail
        refine (HL.out _ HB6.out).mono ?_
        rintro e w7 ⟨rfl, hb7⟩
        go_wp2
        go_ret
        exact ⟨rfl, HB6.out.trans (hb7.mono HB6.out.size)⟩
end Go.Proofs.YtpabggcjmaobhaaDoor
