import Derived.Test.YtecefhoinggmgaaM
import Derived.Test.YtecefhoinggmgaaO
import Derived.Deep.RegionHeld3
namespace Go.Proofs.Ytecefhoinggmgaa
open Go.RowKit

/-- The cells of three boxed values, and what was there before. -/
structure C3 (w0 : World) (ka na : Int) (sa : ByteArray) (kb nb : Int) (sb : ByteArray) (kc nc : Int) (sc : ByteArray) (w : World) : Prop where
  a0 : w.cell? ⟨w0.heap.size, 0, none⟩ = some (.int .i64 ka)
  a1 : w.cell? ⟨w0.heap.size, 1, none⟩ = some (.int .i64 na)
  a2 : w.cell? ⟨w0.heap.size, 2, none⟩ = some (.string sa)
  b0 : w.cell? ⟨w0.heap.size + 1, 0, none⟩ = some (.int .i64 kb)
  b1 : w.cell? ⟨w0.heap.size + 1, 1, none⟩ = some (.int .i64 nb)
  b2 : w.cell? ⟨w0.heap.size + 1, 2, none⟩ = some (.string sb)
  c0 : w.cell? ⟨w0.heap.size + 1 + 1, 0, none⟩ = some (.int .i64 kc)
  c1 : w.cell? ⟨w0.heap.size + 1 + 1, 1, none⟩ = some (.int .i64 nc)
  c2 : w.cell? ⟨w0.heap.size + 1 + 1, 2, none⟩ = some (.string sc)
  below : Below w0.heap.size w0 w

theorem cell_keep {w w' : World} (h : Below w.heap.size w w') {p : Addr} {v : Value} (hp : w.cell? p = some v) : w'.cell? p = some v := by
  rw [h.cell (World.block_lt_of_cell? w p hp)]; exact hp

theorem C3.step {w0 : World} {ka na : Int} {sa : ByteArray} {kb nb : Int} {sb : ByteArray} {kc nc : Int} {sc : ByteArray} {w w' : World} (h : C3 w0 ka na sa kb nb sb kc nc sc w) (hb : Below w.heap.size w w') : C3 w0 ka na sa kb nb sb kc nc sc w' :=
  ⟨cell_keep hb h.a0, cell_keep hb h.a1, cell_keep hb h.a2, cell_keep hb h.b0, cell_keep hb h.b1, cell_keep hb h.b2, cell_keep hb h.c0, cell_keep hb h.c1, cell_keep hb h.c2, h.below.trans (hb.mono h.below.size)⟩

theorem C3.start (w0 : World) (ka na : Int) (sa : ByteArray) (kb nb : Int) (sb : ByteArray) (kc nc : Int) (sc : ByteArray) :
    C3 w0 ka na sa kb nb sb kc nc sc (((w0.alloc (.cells #[.int .i64 ka, .int .i64 na, .string sa] 25)).alloc (.cells #[.int .i64 kb, .int .i64 nb, .string sb] 25)).alloc (.cells #[.int .i64 kc, .int .i64 nc, .string sc] 25)) := by
  constructor
  all_goals first
    | (simp [go_sem]; done)
    | exact (((Below.refl _ w0).alloc (Nat.le_refl _) _).alloc (by simp) _).alloc (by simp; omega) _

theorem C3.drew {w0 : World} {ka na : Int} {sa : ByteArray} {kb nb : Int} {sb : ByteArray} {kc nc : Int} {sc : ByteArray} {w : World} (h : C3 w0 ka na sa kb nb sb kc nc sc w) : C3 w0 ka na sa kb nb sb kc nc sc w.drew :=
  ⟨h.a0, h.a1, h.a2, h.b0, h.b1, h.b2, h.c0, h.c1, h.c2, h.below.drew⟩
theorem S9 {w w' : World} {ka na : Int} {sa : ByteArray} {kb nb : Int} {sb : ByteArray} {kc nc : Int} {sc : ByteArray} (h : C3 w ka na sa kb nb sb kc nc sc w') :
    w'.cell? ⟨w.heap.size, 0, none⟩ = some (.int .i64 ka) ∧ w'.cell? ⟨w.heap.size, 1, none⟩ = some (.int .i64 na) ∧ w'.cell? ⟨w.heap.size, 2, none⟩ = some (.string sa) ∧ w'.cell? ⟨w.heap.size + 1, 0, none⟩ = some (.int .i64 kb) ∧ w'.cell? ⟨w.heap.size + 1, 1, none⟩ = some (.int .i64 nb) ∧ w'.cell? ⟨w.heap.size + 1, 2, none⟩ = some (.string sb) ∧ w'.cell? ⟨w.heap.size + 1 + 1, 0, none⟩ = some (.int .i64 kc) ∧ w'.cell? ⟨w.heap.size + 1 + 1, 1, none⟩ = some (.int .i64 nc) ∧ w'.cell? ⟨w.heap.size + 1 + 1, 2, none⟩ = some (.string sc) ∧ C3 w ka na sa kb nb sb kc nc sc w' := ⟨h.a0, h.a1, h.a2, h.b0, h.b1, h.b2, h.c0, h.c1, h.c2, h⟩

theorem eql24 (ka na : Int) (sa : ByteArray) (kb nb : Int) (sb : ByteArray) (t : Bool) (h : decide (ka = kb ∧ na = nb ∧ sa = sb) = t) (w : World) :
    (binOp .eql 25 (.agg #[.int .i64 ka, .int .i64 na, .string sa]) (.agg #[.int .i64 kb, .int .i64 nb, .string sb])).run Try.prog w = .ok (.bool t) w := by
  subst h
  by_cases h1 : ka = kb
  · by_cases h2 : na = nb
    · by_cases h3 : sa.toList = sb.toList
      · have := bytes_ext h3
        simp [go_sem, h1, h2, this]
      · have h4 : ¬ sa = sb := fun e => h3 (by rw [e])
        simp [go_sem, h1, h2, h3, h4]
    · simp [go_sem, h1, h2]
  · simp [go_sem, h1]

end Go.Proofs.Ytecefhoinggmgaa
