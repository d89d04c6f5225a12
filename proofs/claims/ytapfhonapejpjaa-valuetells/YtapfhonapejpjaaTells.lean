import Derived.Test.YtapfhonapejpjaaRE
import Derived.Deep.RegionHeld3
namespace Go.Proofs.Ytapfhonapejpjaa
open Go.RowKit

/-- The cells of two boxed values, and what was there before. -/
structure V2 (w0 : World) (ka na : Int) (sa : ByteArray) (kb nb : Int) (sb : ByteArray) (w : World) : Prop where
  a : V1 w0.heap.size ka na sa w
  b : V1 (w0.heap.size + 1) kb nb sb w
  below : Below w0.heap.size w0 w
theorem V2.step {w0 : World} {ka na : Int} {sa : ByteArray} {kb nb : Int} {sb : ByteArray} {w w' : World} (h : V2 w0 ka na sa kb nb sb w) (hb : Below w.heap.size w w') : V2 w0 ka na sa kb nb sb w' := ⟨h.a.step hb, h.b.step hb, below_next h.below hb⟩
theorem V2.start (w0 : World) (ka na : Int) (sa : ByteArray) (kb nb : Int) (sb : ByteArray) : V2 w0 ka na sa kb nb sb ((w0.alloc (.cells #[.int .i64 ka, .int .i64 na, .string sa] 24)).alloc (.cells #[.int .i64 kb, .int .i64 nb, .string sb] 24)) := by
  refine ⟨(V1.new w0 ka na sa).alloc _, ?_, below_alloc (below_alloc (Below.refl w0.heap.size w0) _) _⟩
  have h := V1.new (w0.alloc (.cells #[.int .i64 ka, .int .i64 na, .string sa] 24)) kb nb sb
  simpa using h
theorem V2.drew {w0 : World} {ka na : Int} {sa : ByteArray} {kb nb : Int} {sb : ByteArray} {w : World} (h : V2 w0 ka na sa kb nb sb w) : V2 w0 ka na sa kb nb sb w.drew := ⟨⟨h.a.c0, h.a.c1, h.a.c2⟩, ⟨h.b.c0, h.b.c1, h.b.c2⟩, h.below.drew⟩
theorem S6 {w w' : World} {ka na : Int} {sa : ByteArray} {kb nb : Int} {sb : ByteArray} (h : V2 w ka na sa kb nb sb w') :
    w'.cell? ⟨w.heap.size, 0, none⟩ = some (.int .i64 ka) ∧ w'.cell? ⟨w.heap.size, 1, none⟩ = some (.int .i64 na) ∧ w'.cell? ⟨w.heap.size, 2, none⟩ = some (.string sa) ∧ w'.cell? ⟨w.heap.size + 1, 0, none⟩ = some (.int .i64 kb) ∧ w'.cell? ⟨w.heap.size + 1, 1, none⟩ = some (.int .i64 nb) ∧ w'.cell? ⟨w.heap.size + 1, 2, none⟩ = some (.string sb) ∧ V2 w ka na sa kb nb sb w' := ⟨h.a.c0, h.a.c1, h.a.c2, h.b.c0, h.b.c1, h.b.c2, h⟩

set_option maxHeartbeats 400000 in
theorem tells3_longA (ka na : Int) (sa : ByteArray) (kb nb : Int) (sb : ByteArray) (w : World) (ha : decide ((sa.size : Int) ≤ 5000) = false) :
    Calls Try.prog 3 #[.agg #[.int .i64 ka, .int .i64 na, .string sa], .agg #[.int .i64 kb, .int .i64 nb, .string sb]] w fun e w' => e = .returned (.bool true) ∧ Below w.heap.size w w' := by
  have HA := Lib.hid (shortK ka na sa _ ha)
  have hS := V2.start w ka na sa kb nb sb
  clear ha
  go_enter Try.func3, Try.ntmps3
  go_wp2_with fail
  refine (HA.out _).mono ?_
  rintro e w1 ⟨rfl, hb1⟩
  have hbw := (hS.step hb1).below
  go_wp2_with (go_at_call 9; go_must (refine (lives9 _).mono ?_); rintro e w9 ⟨rfl, hb9⟩)
  go_ret
  exact ⟨rfl, below_next hbw hb9⟩

set_option maxHeartbeats 400000 in
theorem tells3_longB (ka na : Int) (sa : ByteArray) (kb nb : Int) (sb : ByteArray) (w : World) (ha : decide ((sa.size : Int) ≤ 5000) = true) (hb : decide ((sb.size : Int) ≤ 5000) = false) :
    Calls Try.prog 3 #[.agg #[.int .i64 ka, .int .i64 na, .string sa], .agg #[.int .i64 kb, .int .i64 nb, .string sb]] w fun e w' => e = .returned (.bool true) ∧ Below w.heap.size w w' := by
  have HA := Lib.hid (shortK ka na sa _ ha)
  have HB := Lib.hid (shortK kb nb sb _ hb)
  have hS := V2.start w ka na sa kb nb sb
  clear ha hb
  go_enter Try.func3, Try.ntmps3
  go_wp2_with fail
  refine (HA.out _).mono ?_
  rintro e w1 ⟨rfl, hb1⟩
  replace hS := hS.step hb1
  clear hb1
  obtain ⟨a0, a1, a2, b0, b1, b2, -⟩ := S6 hS
  go_wp2_with fail
  refine (HB.out _).mono ?_
  rintro e w2 ⟨rfl, hb2⟩
  have hbw := (hS.step hb2).below
  go_wp2_with (go_at_call 9; go_must (refine (lives9 _).mono ?_); rintro e w9 ⟨rfl, hb9⟩)
  go_ret
  exact ⟨rfl, below_next hbw hb9⟩

set_option maxRecDepth 100000 in
set_option maxHeartbeats 2000000 in
theorem tells3_short (ka na : Int) (sa : ByteArray) (kb nb : Int) (sb : ByteArray) (w : World) (ha : decide ((sa.size : Int) ≤ 5000) = true) (hb : decide ((sb.size : Int) ≤ 5000) = true)
    (h0 : -9223372036854775808 ≤ na) (h1 : na < 9223372036854775808) :
    Calls Try.prog 3 #[.agg #[.int .i64 ka, .int .i64 na, .string sa], .agg #[.int .i64 kb, .int .i64 nb, .string sb]] w fun e w' => e = .returned (.bool true) ∧ Below w.heap.size w w' := by
  have HA := Lib.hid (shortK ka na sa _ ha)
  have HB := Lib.hid (shortK kb nb sb _ hb)
  have hsa : sa.size ≤ 5000 := by have := of_decide_eq_true ha; omega
  have hsb : sb.size ≤ 5000 := by have := of_decide_eq_true hb; omega
  have HT := Lib.hid (fun w => text10 ka na sa w h0 h1)
  have HT2 := Lib.hid (fun w => refText11 ka na sa w h0 h1)
  have HQ := Lib.hid (fun w => quote12 sb w hsb)
  have HQ2 := Lib.hid (fun w => refQuote13 sb w hsb)
  generalize textR ka na sa = tr at HT HT2
  generalize quoteR sb.data.toList = qr at HQ HQ2
  obtain ⟨t1, t2⟩ := tr
  obtain ⟨q1, q2⟩ := qr
  simp only at HT HT2 HQ HQ2
  generalize (⟨t1.toArray⟩ : ByteArray) = tt at HT HT2
  generalize (⟨q1.toArray⟩ : ByteArray) = qq at HQ HQ2
  have HC := Lib.hid (fun w => check14 ka na sa w)
  have HC2 := Lib.hid (fun w => refCheck15 ka na sa w)
  generalize checkR ka na sa = cr at HC HC2
  have HM := Lib.hid (fun w => cmp16 ka na sa kb nb sb w)
  have HM2 := Lib.hid (fun w => refCmp17 ka na sa kb nb sb w)
  generalize cmpV ka na sa kb nb sb = cm at HM HM2
  have HR := Lib.hid (fun w => runes18 sa w hsa)
  have HR2 := Lib.hid (fun w => refRunes19 sa w hsa)
  generalize runesR sa.data.toList = ru at HR HR2
  have HL := Lib.hid lives9
  have hS := V2.start w ka na sa kb nb sb
  clear ha hb h0 h1 hsa hsb
  go_enter Try.func3, Try.ntmps3
  go_wp2_with fail
  refine (HA.out _).mono ?_
  rintro e w1 ⟨rfl, hb1⟩
  replace hS := hS.step hb1
  clear hb1
  obtain ⟨a0, a1, a2, b0, b1, b2, -⟩ := S6 hS
  go_wp2_with fail
  refine (HB.out _).mono ?_
  rintro e w2 ⟨rfl, hb2⟩
  replace hS := hS.step hb2
  clear hb2 a0 a1 a2 b0 b1 b2
  obtain ⟨a0, a1, a2, b0, b1, b2, -⟩ := S6 hS
  go_wp2_with fail
  refine (HT.out _).mono ?_
  rintro e w3 ⟨rfl, hb3⟩
  replace hS := hS.step hb3
  clear hb3 a0 a1 a2 b0 b1 b2
  obtain ⟨a0, a1, a2, b0, b1, b2, -⟩ := S6 hS
  go_wp2_with fail
  refine (HT2.out _).mono ?_
  rintro e w4 ⟨rfl, hb4⟩
  replace hS := hS.step hb4
  clear hb4 a0 a1 a2 b0 b1 b2
  obtain ⟨a0, a1, a2, b0, b1, b2, -⟩ := S6 hS
  go_wp2_with fail
  refine (HQ.out _).mono ?_
  rintro e w5 ⟨rfl, hb5⟩
  replace hS := hS.step hb5
  clear hb5 a0 a1 a2 b0 b1 b2
  obtain ⟨a0, a1, a2, b0, b1, b2, -⟩ := S6 hS
  go_wp2_with fail
  refine (HQ2.out _).mono ?_
  rintro e w6 ⟨rfl, hb6⟩
  replace hS := hS.step hb6
  clear hb6 a0 a1 a2 b0 b1 b2
  obtain ⟨a0, a1, a2, b0, b1, b2, -⟩ := S6 hS
  go_wp2_with fail
  go_region_held3 (fun w' => w'.cell? ⟨w.heap.size, 0, none⟩ = some (.int .i64 ka) ∧ w'.cell? ⟨w.heap.size, 1, none⟩ = some (.int .i64 na) ∧ w'.cell? ⟨w.heap.size, 2, none⟩ = some (.string sa) ∧ w'.cell? ⟨w.heap.size + 1, 0, none⟩ = some (.int .i64 kb) ∧ w'.cell? ⟨w.heap.size + 1, 1, none⟩ = some (.int .i64 nb) ∧ w'.cell? ⟨w.heap.size + 1, 2, none⟩ = some (.string sb) ∧ V2 w ka na sa kb nb sb w')
    (first | exact S6 hS.drew | ((apply S6; repeat (first | exact hS.drew | refine V2.step ?_ (by assumption)))))
    (first | (go_at_call 14; refine (HC.out _).mono ?_; rintro e w' ⟨rfl, hbb⟩) | (go_at_call 15; refine (HC2.out _).mono ?_; rintro e w' ⟨rfl, hbb⟩) | (go_at_call 16; refine (HM.out _).mono ?_; rintro e w' ⟨rfl, hbb⟩) | (go_at_call 17; refine (HM2.out _).mono ?_; rintro e w' ⟨rfl, hbb⟩) | (go_at_call 18; refine (HR.out _).mono ?_; rintro e w' ⟨rfl, hbb⟩) | (go_at_call 19; refine (HR2.out _).mono ?_; rintro e w' ⟨rfl, rfl⟩) | (go_at_call 9; refine (HL.out _).mono ?_; rintro e w' ⟨rfl, hbb⟩))
  rename_i hHeld
  have hbw := hHeld.2.2.2.2.2.2.below
  clear hHeld
  go_wp2
  go_ret
  exact ⟨rfl, hbw⟩

theorem tells3 (ka na : Int) (sa : ByteArray) (kb nb : Int) (sb : ByteArray) (w : World) (h0 : -9223372036854775808 ≤ na) (h1 : na < 9223372036854775808) :
    Calls Try.prog 3 #[.agg #[.int .i64 ka, .int .i64 na, .string sa], .agg #[.int .i64 kb, .int .i64 nb, .string sb]] w fun e w' => e = .returned (.bool true) ∧ Below w.heap.size w w' := by
  cases ha : decide ((sa.size : Int) ≤ 5000) with
  | false => exact tells3_longA ka na sa kb nb sb w ha
  | true =>
    cases hb : decide ((sb.size : Int) ≤ 5000) with
    | false => exact tells3_longB ka na sa kb nb sb w ha hb
    | true => exact tells3_short ka na sa kb nb sb w ha hb h0 h1
end Go.Proofs.Ytapfhonapejpjaa
