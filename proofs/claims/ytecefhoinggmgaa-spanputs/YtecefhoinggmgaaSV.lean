/-
  Contracts of the document's Check, At and done. No condition.
-/
import Derived.Test.YtecefhoinggmgaaPD
namespace Go.Proofs.Ytecefhoinggmgaa
open Go.RowKit

set_option maxHeartbeats 400000 in
theorem refCheck19 (l : List Row) (v : Value) (w : World) (h : RowsAt w w.heap.size v l) :
    Calls Try.prog 19 #[v] w fun e w' => e = .returned (.int .i64 (if rowsOK l then 0 else 2)) ∧ Below w.heap.size w w' := by
  have HR := Lib.hid (right30 l v w h)
  obtain ⟨A, cap, rfl, -⟩ := h
  cases hq : rowsOK l with
  | true =>
    rw [hq] at HR
    clear hq
    go_enter Try.func19, Try.ntmps19
    go_wp2_with fail
    refine HR.out.mono ?_
    rintro e w1 ⟨rfl, hb1⟩
    have HB1 := Lib.hid hb1
    clear hb1
    go_wp2
    go_ret
    exact ⟨rfl, HB1.out⟩
  | false =>
    rw [hq] at HR
    clear hq
    go_enter Try.func19, Try.ntmps19
    go_wp2_with fail
    refine HR.out.mono ?_
    rintro e w1 ⟨rfl, hb1⟩
    have HB1 := Lib.hid hb1
    clear hb1
    go_wp2
    go_ret
    exact ⟨rfl, HB1.out⟩

theorem refAt_eq {l : List Row} (h : rowsOK l = true) (t : Int) : atR l t = (lkD l t, (lkD l t).1 != 0) := by
  rw [at_eq h]
  have hv : lkD l t = gv l t := rfl
  rw [hv]
  have hk := nzv_gv h t
  congr 1
  unfold nzv kindZ at hk
  rw [← hk, bne]
  cases (gv l t).1 == 0 <;> rfl
theorem at_wrong {l : List Row} (h : rowsOK l = false) (t : Int) : atR l t = (vz, false) := by
  unfold atR
  rw [h]; rfl

set_option maxHeartbeats 400000 in
theorem refAt16 (l : List Row) (t : Int) (v : Value) (w : World) (h : RowsAt w w.heap.size v l) :
    Calls Try.prog 16 #[v, .int .i64 t] w fun e w' => e = .returned (.tuple #[valV (atR l t).1, .bool (atR l t).2]) ∧ Below w.heap.size w w' := by
  have hb0 : Below w.heap.size w (w.alloc (.cells #[.int .i64 0, .int .i64 0, .string ⟨#[]⟩] 25)) := (Below.refl _ _).alloc (Nat.le_refl _) _
  have HB0 := Lib.hid hb0
  have HL := Lib.hid (h.step hb0)
  have HR := Lib.hid (right30 l v _ HL.out)
  obtain ⟨A, cap, rfl, -⟩ := h
  clear hb0
  obtain ⟨ans, hans⟩ : ∃ ans, atR l t = ans := ⟨_, rfl⟩
  rw [hans]
  have HANS := Lib.hid hans
  clear hans
  obtain ⟨⟨ak, an, as1⟩, ab⟩ := ans
  unfold valV
  simp only
  cases hq : rowsOK l with
  | false =>
    rw [hq] at HR
    have he : (((ak, an, as1), ab) : Vl × Bool) = ((0, 0, ⟨#[]⟩), false) := HANS.out.symm.trans (at_wrong hq t)
    injection he with e1 e2
    injection e1 with e1 e3
    injection e3 with e3 e4
    subst e1 e2 e3 e4
    clear hq HANS
    go_enter Try.func16, Try.ntmps16
    go_wp2_with fail
    refine HR.out.mono ?_
    rintro e w1 ⟨rfl, hb1⟩
    have HB1 := Lib.hid (HB0.out.trans (hb1.mono (by simp)))
    have p0 : w1.cell? ⟨w.heap.size, 0, none⟩ = some (.int .i64 0) := by rw [hb1.cell (by simp)]; simp [go_sem]
    have p1 : w1.cell? ⟨w.heap.size, 1, none⟩ = some (.int .i64 0) := by rw [hb1.cell (by simp)]; simp [go_sem]
    have p2 : w1.cell? ⟨w.heap.size, 2, none⟩ = some (.string ⟨#[]⟩) := by rw [hb1.cell (by simp)]; simp [go_sem]
    have f0 : ∀ i, w1.frozen? ⟨w.heap.size, i, none⟩ = false := fun i => by rw [hb1.frozen (by simp)]; simp [go_sem]
    have hws : w.heap.size < w1.heap.size := by have := hb1.size; simp at this; omega
    clear hb1
    go_wp2
    exact bodyPost_ret (v := .tuple #[valV vz, .bool false]) (by simp [results, Try.results16, go_sem, valV, vz, p0, p1, p2]; rfl) rfl ⟨rfl, ((HB1.out.setCell (Nat.le_refl _) _).setCell (Nat.le_refl _) _).setCell (Nat.le_refl _) _⟩
  | true =>
    rw [hq] at HR
    have HE : Hid (lkD l t = (ak, an, as1) ∧ (ak != 0) = ab) := by
      have := HANS.out.symm.trans (refAt_eq hq t)
      injection this with e1 e2
      refine ⟨e1.symm, ?_⟩
      rw [← e1] at e2
      exact e2.symm
    clear hq HANS
    go_enter Try.func16, Try.ntmps16
    go_wp2_with fail
    refine HR.out.mono ?_
    rintro e w1 ⟨rfl, hb1⟩
    have HB1 := Lib.hid (HB0.out.trans (hb1.mono (by simp)))
    have HH := Lib.hid (had37 l t _ w1 (HL.out.step hb1))
    rw [HE.out.1] at HH
    unfold valV at HH
    simp only at HH
    have P0 : w1.cell? ⟨w.heap.size, 0, none⟩ = some (.int .i64 0) := by rw [hb1.cell (by simp)]; simp [go_sem]
    have P1 : w1.cell? ⟨w.heap.size, 1, none⟩ = some (.int .i64 0) := by rw [hb1.cell (by simp)]; simp [go_sem]
    have P2 : w1.cell? ⟨w.heap.size, 2, none⟩ = some (.string ⟨#[]⟩) := by rw [hb1.cell (by simp)]; simp [go_sem]
    have F0 : ∀ i, w1.frozen? ⟨w.heap.size, i, none⟩ = false := fun i => by rw [hb1.frozen (by simp)]; simp [go_sem]
    have hws : w.heap.size < w1.heap.size := by have := hb1.size; simp at this; omega
    clear hb1
    go_wp2_with fail
    refine HH.out.mono ?_
    rintro e w2 ⟨rfl, hb2⟩
    have hb3 := hb2.trans (((Below.refl _ w2).alloc (Nat.le_refl _) (.cells #[.int .i64 ak, .int .i64 an, .string as1] 25)).mono hb2.size)
    have p0 := (hb3.cell (p := ⟨w.heap.size, 0, none⟩) hws).trans P0
    have p1 := (hb3.cell (p := ⟨w.heap.size, 1, none⟩) hws).trans P1
    have p2 := (hb3.cell (p := ⟨w.heap.size, 2, none⟩) hws).trans P2
    have f0 := fun i => (hb3.frozen (p := ⟨w.heap.size, i, none⟩) hws).trans (F0 i)
    have x0 : (w2.alloc (.cells #[.int .i64 ak, .int .i64 an, .string as1] 25)).cell? ⟨w2.heap.size, 0, none⟩ = some (.int .i64 ak) := by simp [go_sem]
    have x1 : (w2.alloc (.cells #[.int .i64 ak, .int .i64 an, .string as1] 25)).cell? ⟨w2.heap.size, 1, none⟩ = some (.int .i64 an) := by simp [go_sem]
    have x2 : (w2.alloc (.cells #[.int .i64 ak, .int .i64 an, .string as1] 25)).cell? ⟨w2.heap.size, 2, none⟩ = some (.string as1) := by simp [go_sem]
    have hws2 : w.heap.size < w2.heap.size := Nat.lt_of_lt_of_le hws hb2.size
    have hws3 : w2.heap.size < (w2.alloc (.cells #[.int .i64 ak, .int .i64 an, .string as1] 25)).heap.size := by simp
    have hne : ¬ w.heap.size = w2.heap.size := by omega
    have hne' : ¬ w2.heap.size = w.heap.size := by omega
    have HB3 := Lib.hid (HB1.out.trans (hb3.mono HB1.out.size))
    clear hb2 hb3 P0 P1 P2 F0 hws
    have hab := HE.out.2
    go_wp2_with fail
    generalize (w2.alloc (.cells #[.int .i64 ak, .int .i64 an, .string as1] 25)) = W3 at p0 p1 p2 f0 x0 x1 x2 HB3 hws3 ⊢
    go_region
    all_goals
      go_wp2
      exact bodyPost_ret (v := .tuple #[.agg #[.int .i64 ak, .int .i64 an, .string as1], .bool ab]) (by simp [results, Try.results16, go_sem, p0, p1, p2]) rfl ⟨rfl, (((HB3.out.setCell (Nat.le_refl _) _).setCell (Nat.le_refl _) _).setCell (Nat.le_refl _) _).drew⟩

/-- Rows that are not too many. -/
def doneR (l : List Row) : List Row × Int := if l.length ≤ 64 then (l, 0) else ([], 5)
set_option maxHeartbeats 400000 in
theorem done33 (l : List Row) (v : Value) (n₀ : Nat) (w : World) (h : OwnR w n₀ v l) :
    Calls Try.prog 33 #[v] w fun e w' => ∃ v', e = .returned (.tuple #[v', .int .i64 (doneR l).2]) ∧ OwnR w' n₀ v' (doneR l).1 ∧ w = w' := by
  have HO := Lib.hid h
  obtain ⟨A, cap, rfl⟩ := h.slice
  clear h
  by_cases hl : (64 : Int) < l.length
  · have hd : doneR l = ([], 5) := by unfold doneR; rw [if_neg (by omega)]
    rw [hd]
    go_enter Try.func33, Try.ntmps33
    go_wp2
    exact bodyPost_ret (v := .tuple #[.slice none 0 0, .int .i64 5]) (by simp [results, Try.results33, go_sem]) rfl ⟨_, rfl, OwnR.nil _ _, rfl⟩
  · have hd : doneR l = (l, 0) := by unfold doneR; rw [if_pos (by omega)]
    rw [hd]
    go_enter Try.func33, Try.ntmps33
    go_wp2
    exact bodyPost_ret (v := .tuple #[.slice A l.length cap, .int .i64 0]) (by simp [results, Try.results33, go_sem]) rfl ⟨_, rfl, HO.out, rfl⟩
end Go.Proofs.Ytecefhoinggmgaa
