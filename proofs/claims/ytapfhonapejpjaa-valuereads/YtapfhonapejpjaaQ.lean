import Derived.Test.YtapfhonapejpjaaM
import Derived.Test.YtapfhonapejpjaaO
import Derived.Deep.RegionHeld3
namespace Go.Proofs.Ytapfhonapejpjaa
open Go.RowKit

theorem shortK (k n : Int) (s : ByteArray) (t : Bool) (h : decide ((s.size : Int) ≤ 5000) = t) (w : World) :
    Calls Try.prog 8 #[.agg #[.int .i64 k, .int .i64 n, .string s]] w fun e w' => e = .returned (.bool t) ∧ Below w.heap.size w w' := by
  subst h; exact short8 k n s w

/-- The cells of three boxed values, and what was there before. -/
structure C3 (w0 : World) (ka na : Int) (sa : ByteArray) (kb nb : Int) (sb : ByteArray) (kc nc : Int) (sc : ByteArray) (w : World) : Prop where
  a0 : w.cell? ⟨w0.heap.size, 0, none⟩ = some (.int .i64 ka)
  a1 : w.cell? ⟨w0.heap.size, 1, none⟩ = some (.int .i64 na)
  a2 : w.cell? ⟨w0.heap.size, 2, none⟩ = some (.string sa)
  b0 : w.cell? ⟨w0.heap.size + 1, 0, none⟩ = some (.int .i64 kb)
  b1 : w.cell? ⟨w0.heap.size + 1, 1, none⟩ = some (.int .i64 nb)
  b2 : w.cell? ⟨w0.heap.size + 1, 2, none⟩ = some (.string sb)
  c0 : w.cell? ⟨w0.heap.size + 1 + 1, 0, none⟩ = some (.int .i64 kc)
  c1 : w.cell? ⟨w0.heap.size + 1 + 1, 1, none⟩ = some (.int .i64 nc)
  c2 : w.cell? ⟨w0.heap.size + 1 + 1, 2, none⟩ = some (.string sc)
  below : Below w0.heap.size w0 w

theorem cell_keep {w w' : World} (h : Below w.heap.size w w') {p : Addr} {v : Value} (hp : w.cell? p = some v) : w'.cell? p = some v := by
  rw [h.cell (World.block_lt_of_cell? w p hp)]; exact hp

theorem C3.step {w0 : World} {ka na : Int} {sa : ByteArray} {kb nb : Int} {sb : ByteArray} {kc nc : Int} {sc : ByteArray} {w w' : World} (h : C3 w0 ka na sa kb nb sb kc nc sc w) (hb : Below w.heap.size w w') : C3 w0 ka na sa kb nb sb kc nc sc w' :=
  ⟨cell_keep hb h.a0, cell_keep hb h.a1, cell_keep hb h.a2, cell_keep hb h.b0, cell_keep hb h.b1, cell_keep hb h.b2, cell_keep hb h.c0, cell_keep hb h.c1, cell_keep hb h.c2, h.below.trans (hb.mono h.below.size)⟩

theorem C3.start (w0 : World) (ka na : Int) (sa : ByteArray) (kb nb : Int) (sb : ByteArray) (kc nc : Int) (sc : ByteArray) :
    C3 w0 ka na sa kb nb sb kc nc sc (((w0.alloc (.cells #[.int .i64 ka, .int .i64 na, .string sa] 24)).alloc (.cells #[.int .i64 kb, .int .i64 nb, .string sb] 24)).alloc (.cells #[.int .i64 kc, .int .i64 nc, .string sc] 24)) := by
  constructor
  all_goals first
    | (simp [go_sem]; done)
    | exact (((Below.refl _ w0).alloc (Nat.le_refl _) _).alloc (by simp) _).alloc (by simp; omega) _

theorem C3.drew {w0 : World} {ka na : Int} {sa : ByteArray} {kb nb : Int} {sb : ByteArray} {kc nc : Int} {sc : ByteArray} {w : World} (h : C3 w0 ka na sa kb nb sb kc nc sc w) : C3 w0 ka na sa kb nb sb kc nc sc w.drew :=
  ⟨h.a0, h.a1, h.a2, h.b0, h.b1, h.b2, h.c0, h.c1, h.c2, h.below.drew⟩
theorem S9 {w w' : World} {ka na : Int} {sa : ByteArray} {kb nb : Int} {sb : ByteArray} {kc nc : Int} {sc : ByteArray} (h : C3 w ka na sa kb nb sb kc nc sc w') :
    w'.cell? ⟨w.heap.size, 0, none⟩ = some (.int .i64 ka) ∧ w'.cell? ⟨w.heap.size, 1, none⟩ = some (.int .i64 na) ∧ w'.cell? ⟨w.heap.size, 2, none⟩ = some (.string sa) ∧ w'.cell? ⟨w.heap.size + 1, 0, none⟩ = some (.int .i64 kb) ∧ w'.cell? ⟨w.heap.size + 1, 1, none⟩ = some (.int .i64 nb) ∧ w'.cell? ⟨w.heap.size + 1, 2, none⟩ = some (.string sb) ∧ w'.cell? ⟨w.heap.size + 1 + 1, 0, none⟩ = some (.int .i64 kc) ∧ w'.cell? ⟨w.heap.size + 1 + 1, 1, none⟩ = some (.int .i64 nc) ∧ w'.cell? ⟨w.heap.size + 1 + 1, 2, none⟩ = some (.string sc) ∧ C3 w ka na sa kb nb sb kc nc sc w' := ⟨h.a0, h.a1, h.a2, h.b0, h.b1, h.b2, h.c0, h.c1, h.c2, h⟩

theorem eql24 (ka na : Int) (sa : ByteArray) (kb nb : Int) (sb : ByteArray) (t : Bool) (h : decide (ka = kb ∧ na = nb ∧ sa = sb) = t) (w : World) :
    (binOp .eql 24 (.agg #[.int .i64 ka, .int .i64 na, .string sa]) (.agg #[.int .i64 kb, .int .i64 nb, .string sb])).run Try.prog w = .ok (.bool t) w := by
  subst h
  by_cases h1 : ka = kb
  · by_cases h2 : na = nb
    · by_cases h3 : sa.toList = sb.toList
      · have := bytes_ext h3
        simp [go_sem, h1, h2, this]
      · have h4 : ¬ sa = sb := fun e => h3 (by rw [e])
        simp [go_sem, h1, h2, h3, h4]
    · simp [go_sem, h1, h2]
  · simp [go_sem, h1]

set_option maxHeartbeats 1000000 in
theorem order6_short (ka na : Int) (sa : ByteArray) (kb nb : Int) (sb : ByteArray) (kc nc : Int) (sc : ByteArray) (w : World)
    (ha : decide ((sa.size : Int) ≤ 5000) = true) (hb : decide ((sb.size : Int) ≤ 5000) = true) (hc : decide ((sc.size : Int) ≤ 5000) = true) :
    Calls Try.prog 6 #[.agg #[.int .i64 ka, .int .i64 na, .string sa], .agg #[.int .i64 kb, .int .i64 nb, .string sb], .agg #[.int .i64 kc, .int .i64 nc, .string sc]] w fun e w' => e = .returned (.bool true) ∧ Below w.heap.size w w' := by
  have HA := Lib.hid (shortK ka na sa _ ha)
  have HB := Lib.hid (shortK kb nb sb _ hb)
  have HC := Lib.hid (shortK kc nc sc _ hc)
  have hS := C3.start w ka na sa kb nb sb kc nc sc
  clear ha hb hc
  go_enter Try.func6, Try.ntmps6
  go_wp2_with fail
  refine (HA.out _).mono ?_
  rintro e w1 ⟨rfl, hb1⟩
  replace hS := hS.step hb1
  clear hb1
  obtain ⟨a0, a1, a2, b0, b1, b2, c0, c1, c2, -⟩ := id hS
  go_wp2_with fail
  refine (HB.out _).mono ?_
  rintro e w2 ⟨rfl, hb2⟩
  replace hS := hS.step hb2
  clear hb2 a0 a1 a2 b0 b1 b2 c0 c1 c2
  obtain ⟨a0, a1, a2, b0, b1, b2, c0, c1, c2, -⟩ := id hS
  go_wp2_with fail
  refine (HC.out _).mono ?_
  rintro e w3 ⟨rfl, hb3⟩
  replace hS := hS.step hb3
  clear hb3 a0 a1 a2 b0 b1 b2 c0 c1 c2
  obtain ⟨a0, a1, a2, b0, b1, b2, c0, c1, c2, hbw⟩ := id hS
  go_wp2_with fail
  go_region_held3 (fun w' => w'.cell? ⟨w.heap.size, 0, none⟩ = some (.int .i64 ka) ∧ w'.cell? ⟨w.heap.size, 1, none⟩ = some (.int .i64 na) ∧ w'.cell? ⟨w.heap.size, 2, none⟩ = some (.string sa) ∧ w'.cell? ⟨w.heap.size + 1, 0, none⟩ = some (.int .i64 kb) ∧ w'.cell? ⟨w.heap.size + 1, 1, none⟩ = some (.int .i64 nb) ∧ w'.cell? ⟨w.heap.size + 1, 2, none⟩ = some (.string sb) ∧ w'.cell? ⟨w.heap.size + 1 + 1, 0, none⟩ = some (.int .i64 kc) ∧ w'.cell? ⟨w.heap.size + 1 + 1, 1, none⟩ = some (.int .i64 nc) ∧ w'.cell? ⟨w.heap.size + 1 + 1, 2, none⟩ = some (.string sc) ∧ C3 w ka na sa kb nb sb kc nc sc w') (first | exact S9 hS.drew | exact S9 (hS.drew.step hbb) | exact S9 ((hS.drew.step (by assumption)).step hbb) | exact S9 (((hS.drew.step (by assumption)).step (by assumption)).step hbb) | ((trace_state; fail)))
    (first | (go_at_call 16; refine (cmp16 _ _ _ _ _ _ _).mono ?_; rintro e w' ⟨rfl, hbb⟩))
  rename_i hHeld
  obtain ⟨a0', a1', a2', b0', b1', b2', c0', c1', c2', hS'⟩ := hHeld
  clear a0 a1 a2 b0 b1 b2 c0 c1 c2 hS hbw HA HB HC
  have HBA := Lib.hid (cmp16 kb nb sb ka na sa)
  have hran := cmp3_to.rng (ka, na, sa) (kb, nb, sb)
  have hant := cmp3_to.anti (ka, na, sa) (kb, nb, sb)
  have HX := Lib.hid (cmp3_to.zero (ka, na, sa) (kb, nb, sb))
  simp only [← cmpV_eq] at hran hant HX
  rw [hant] at HBA
  have HZ1 : cmpV ka na sa kb nb sb = -1 → (0 < cmpV kb nb sb kc nc sc) ∨ (cmpV kb nb sb kc nc sc ≤ 0 ∧ cmpV ka na sa kc nc sc = -1) := fun e => by
    have h1 := cmp3_to.strict (ka, na, sa) (kb, nb, sb) (kc, nc, sc)
    have h2 := cmp3_to.rng (ka, na, sa) (kc, nc, sc)
    simp only [← cmpV_eq] at h1 h2
    omega
  have HZ0 : ka = kb ∧ na = nb ∧ sa = sb → cmpV ka na sa kc nc sc = cmpV kb nb sb kc nc sc := fun e => by obtain ⟨rfl, rfl, rfl⟩ := e; rfl
  generalize cmpV kb nb sb kc nc sc = y at HZ0 HZ1 ⊢
  generalize cmpV ka na sa kc nc sc = z at HZ0 HZ1 ⊢
  generalize cmpV ka na sa kb nb sb = x at hran hant HBA HX HZ1 ⊢
  clear hant
  have HZ1' := Lib.hid HZ1
  have HZ0' := Lib.hid HZ0
  clear HZ1 HZ0
  rcases hran with rfl | rfl | rfl
  · have hne : ¬ (ka = kb ∧ na = nb ∧ sa = sb) := fun e => by obtain ⟨rfl, rfl, rfl⟩ := e; have := HX.out.2 rfl; omega
    have heq := fun w => eql24 ka na sa kb nb sb false (by simpa using hne) w
    clear hne
    have HYZ : Hid ((0 < y) ∨ (y ≤ 0 ∧ z = -1)) := HZ1'.out rfl
    go_wp2_with fail
    refine (HBA.out _).mono ?_
    rintro e w4 ⟨rfl, hb4⟩
    replace hS' := hS'.step hb4
    clear hb4 a0' a1' a2' b0' b1' b2' c0' c1' c2'
    obtain ⟨a0, a1, a2, b0, b1, b2, c0, c1, c2, hbw⟩ := id hS'
    clear hS'
    rcases HYZ.out with hy | ⟨hy, rfl⟩
    · go_wp2_with (go_at_call 9; go_must (refine (lives9 _).mono ?_); rintro e w5 ⟨rfl, hb5⟩)
      go_ret
      exact ⟨rfl, hbw.trans (hb5.mono hbw.size)⟩
    · go_wp2_with (go_at_call 9; go_must (refine (lives9 _).mono ?_); rintro e w5 ⟨rfl, hb5⟩)
      go_ret
      exact ⟨rfl, hbw.trans (hb5.mono hbw.size)⟩
  · have he : ka = kb ∧ na = nb ∧ sa = sb := by have := HX.out.1 rfl; simpa using this
    have heq := fun w => eql24 ka na sa kb nb sb true (by simpa using he) w
    have HYZ : Hid (z = y) := HZ0'.out he
    clear he
    go_wp2_with fail
    refine (HBA.out _).mono ?_
    rintro e w4 ⟨rfl, hb4⟩
    replace hS' := hS'.step hb4
    clear hb4 a0' a1' a2' b0' b1' b2' c0' c1' c2'
    obtain ⟨a0, a1, a2, b0, b1, b2, c0, c1, c2, hbw⟩ := id hS'
    clear hS'
    have hzy := HYZ.out
    subst hzy
    by_cases hy : 0 < z
    · go_wp2_with (go_at_call 9; go_must (refine (lives9 _).mono ?_); rintro e w5 ⟨rfl, hb5⟩)
      go_ret
      exact ⟨rfl, hbw.trans (hb5.mono hbw.size)⟩
    · go_wp2_with (go_at_call 9; go_must (refine (lives9 _).mono ?_); rintro e w5 ⟨rfl, hb5⟩)
      go_ret
      exact ⟨rfl, hbw.trans (hb5.mono hbw.size)⟩
  · have hne : ¬ (ka = kb ∧ na = nb ∧ sa = sb) := fun e => by obtain ⟨rfl, rfl, rfl⟩ := e; have := HX.out.2 rfl; omega
    have heq := fun w => eql24 ka na sa kb nb sb false (by simpa using hne) w
    clear hne
    go_wp2_with fail
    refine (HBA.out _).mono ?_
    rintro e w4 ⟨rfl, hb4⟩
    replace hS' := hS'.step hb4
    clear hb4 a0' a1' a2' b0' b1' b2' c0' c1' c2'
    obtain ⟨a0, a1, a2, b0, b1, b2, c0, c1, c2, hbw⟩ := id hS'
    clear hS'
    go_wp2_with (go_at_call 9; go_must (refine (lives9 _).mono ?_); rintro e w5 ⟨rfl, hb5⟩)
    go_ret
    exact ⟨rfl, hbw.trans (hb5.mono hbw.size)⟩

set_option maxHeartbeats 400000 in
theorem order6_longA (ka na : Int) (sa : ByteArray) (kb nb : Int) (sb : ByteArray) (kc nc : Int) (sc : ByteArray) (w : World) (ha : decide ((sa.size : Int) ≤ 5000) = false) : Calls Try.prog 6 #[.agg #[.int .i64 ka, .int .i64 na, .string sa], .agg #[.int .i64 kb, .int .i64 nb, .string sb], .agg #[.int .i64 kc, .int .i64 nc, .string sc]] w fun e w' => e = .returned (.bool true) ∧ Below w.heap.size w w' := by
  have HA := Lib.hid (shortK ka na sa _ ha)
  have hS := C3.start w ka na sa kb nb sb kc nc sc
  clear ha
  go_enter Try.func6, Try.ntmps6
  go_wp2_with fail
  refine (HA.out _).mono ?_
  rintro e w1 ⟨rfl, hb1⟩
  replace hS := hS.step hb1
  clear hb1
  obtain ⟨a0, a1, a2, b0, b1, b2, c0, c1, c2, -⟩ := id hS
  have hbw := hS.below
  go_wp2_with (go_at_call 9; go_must (refine (lives9 _).mono ?_); rintro e w9 ⟨rfl, hb9⟩)
  go_ret
  exact ⟨rfl, hbw.trans (hb9.mono hbw.size)⟩

set_option maxHeartbeats 400000 in
theorem order6_longB (ka na : Int) (sa : ByteArray) (kb nb : Int) (sb : ByteArray) (kc nc : Int) (sc : ByteArray) (w : World) (ha : decide ((sa.size : Int) ≤ 5000) = true) (hb : decide ((sb.size : Int) ≤ 5000) = false) : Calls Try.prog 6 #[.agg #[.int .i64 ka, .int .i64 na, .string sa], .agg #[.int .i64 kb, .int .i64 nb, .string sb], .agg #[.int .i64 kc, .int .i64 nc, .string sc]] w fun e w' => e = .returned (.bool true) ∧ Below w.heap.size w w' := by
  have HA := Lib.hid (shortK ka na sa _ ha)
  have HB := Lib.hid (shortK kb nb sb _ hb)
  have hS := C3.start w ka na sa kb nb sb kc nc sc
  clear ha hb
  go_enter Try.func6, Try.ntmps6
  go_wp2_with fail
  refine (HA.out _).mono ?_
  rintro e w1 ⟨rfl, hb1⟩
  replace hS := hS.step hb1
  clear hb1
  obtain ⟨a0, a1, a2, b0, b1, b2, c0, c1, c2, -⟩ := id hS
  go_wp2_with fail
  refine (HB.out _).mono ?_
  rintro e w2 ⟨rfl, hb2⟩
  replace hS := hS.step hb2
  clear hb2 a0 a1 a2 b0 b1 b2 c0 c1 c2
  obtain ⟨a0, a1, a2, b0, b1, b2, c0, c1, c2, -⟩ := id hS
  have hbw := hS.below
  go_wp2_with (go_at_call 9; go_must (refine (lives9 _).mono ?_); rintro e w9 ⟨rfl, hb9⟩)
  go_ret
  exact ⟨rfl, hbw.trans (hb9.mono hbw.size)⟩

set_option maxHeartbeats 400000 in
theorem order6_longC (ka na : Int) (sa : ByteArray) (kb nb : Int) (sb : ByteArray) (kc nc : Int) (sc : ByteArray) (w : World) (ha : decide ((sa.size : Int) ≤ 5000) = true) (hb : decide ((sb.size : Int) ≤ 5000) = true) (hc : decide ((sc.size : Int) ≤ 5000) = false) : Calls Try.prog 6 #[.agg #[.int .i64 ka, .int .i64 na, .string sa], .agg #[.int .i64 kb, .int .i64 nb, .string sb], .agg #[.int .i64 kc, .int .i64 nc, .string sc]] w fun e w' => e = .returned (.bool true) ∧ Below w.heap.size w w' := by
  have HA := Lib.hid (shortK ka na sa _ ha)
  have HB := Lib.hid (shortK kb nb sb _ hb)
  have HC := Lib.hid (shortK kc nc sc _ hc)
  have hS := C3.start w ka na sa kb nb sb kc nc sc
  clear ha hb hc
  go_enter Try.func6, Try.ntmps6
  go_wp2_with fail
  refine (HA.out _).mono ?_
  rintro e w1 ⟨rfl, hb1⟩
  replace hS := hS.step hb1
  clear hb1
  obtain ⟨a0, a1, a2, b0, b1, b2, c0, c1, c2, -⟩ := id hS
  go_wp2_with fail
  refine (HB.out _).mono ?_
  rintro e w2 ⟨rfl, hb2⟩
  replace hS := hS.step hb2
  clear hb2 a0 a1 a2 b0 b1 b2 c0 c1 c2
  obtain ⟨a0, a1, a2, b0, b1, b2, c0, c1, c2, -⟩ := id hS
  go_wp2_with fail
  refine (HC.out _).mono ?_
  rintro e w3 ⟨rfl, hb3⟩
  replace hS := hS.step hb3
  clear hb3 a0 a1 a2 b0 b1 b2 c0 c1 c2
  obtain ⟨a0, a1, a2, b0, b1, b2, c0, c1, c2, -⟩ := id hS
  have hbw := hS.below
  go_wp2_with (go_at_call 9; go_must (refine (lives9 _).mono ?_); rintro e w9 ⟨rfl, hb9⟩)
  go_ret
  exact ⟨rfl, hbw.trans (hb9.mono hbw.size)⟩

theorem order6 (ka na : Int) (sa : ByteArray) (kb nb : Int) (sb : ByteArray) (kc nc : Int) (sc : ByteArray) (w : World) : Calls Try.prog 6 #[.agg #[.int .i64 ka, .int .i64 na, .string sa], .agg #[.int .i64 kb, .int .i64 nb, .string sb], .agg #[.int .i64 kc, .int .i64 nc, .string sc]] w fun e w' => e = .returned (.bool true) ∧ Below w.heap.size w w' := by
  cases ha : decide ((sa.size : Int) ≤ 5000) with
  | false => exact order6_longA ka na sa kb nb sb kc nc sc w ha
  | true =>
    cases hb : decide ((sb.size : Int) ≤ 5000) with
    | false => exact order6_longB ka na sa kb nb sb kc nc sc w ha hb
    | true =>
      cases hc : decide ((sc.size : Int) ≤ 5000) with
      | false => exact order6_longC ka na sa kb nb sb kc nc sc w ha hb hc
      | true => exact order6_short ka na sa kb nb sb kc nc sc w ha hb hc
end Go.Proofs.Ytapfhonapejpjaa
