/-
  The reader in memory; the contracts of readBytes. No condition but bounds on lengths.
-/
import Derived.Test.YtdmalkkpcggifaaH
namespace Go.Proofs.Ytdmalkkpcggifaa
open Go.RowKit

/-- At block R lies a reader of s, at place p. -/
def RdAt (w : World) (R : Nat) (s : ByteArray) (p : Nat) : Prop := w.heap[R]? = some (.cells #[.string s, .int .i64 p] 62 (0, 0))
theorem RdAt.c0 {w : World} {R : Nat} {s : ByteArray} {p : Nat} (h : RdAt w R s p) : w.cell? ⟨R, 0, none⟩ = some (.string s) := cell_of_row w R 0 _ 62 (0, 0) h
theorem RdAt.c1 {w : World} {R : Nat} {s : ByteArray} {p : Nat} (h : RdAt w R s p) : w.cell? ⟨R, 1, none⟩ = some (.int .i64 p) := cell_of_row w R 1 _ 62 (0, 0) h
theorem RdAt.fz {w : World} {R : Nat} {s : ByteArray} {p : Nat} (h : RdAt w R s p) (j : Nat) : w.frozen? ⟨R, j, none⟩ = false := by
  unfold RdAt at h
  simp [World.frozen?, h]
theorem RdAt.lt {w : World} {R : Nat} {s : ByteArray} {p : Nat} (h : RdAt w R s p) : R < w.heap.size := (Array.getElem?_eq_some_iff.1 h).1
theorem RdAt.set {w : World} {R : Nat} {s : ByteArray} {p : Nat} (h : RdAt w R s p) (q : Nat) : RdAt (w.setCell ⟨R, 1, none⟩ (.int .i64 q)) R s q := by
  unfold RdAt at h ⊢
  simp only [World.setCell, Array.getElem?_modify, h]
  simp
theorem RdAt.set' {w : World} {R : Nat} {s : ByteArray} {p : Nat} (h : RdAt w R s p) (q : Nat) (z : Int) (hz : (q : Int) = z) : RdAt (w.setCell ⟨R, 1, none⟩ (.int .i64 z)) R s q := by
  subst hz
  exact h.set q
theorem RdAt.drewN {w : World} {R : Nat} {s : ByteArray} {p : Nat} (h : RdAt w R s p) (n : Nat) : RdAt (w.drewN n) R s p := h
theorem RdAt.alloc {w : World} {R : Nat} {s : ByteArray} {p : Nat} (h : RdAt w R s p) (o : Obj) : RdAt (w.alloc o) R s p := by
  unfold RdAt
  rw [Below.heap_alloc w o R h.lt]
  exact h
theorem RdAt.below {w w' : World} {R : Nat} {s : ByteArray} {p : Nat} (h : RdAt w R s p) (hb : Below w.heap.size w w') : RdAt w' R s p := by
  unfold RdAt
  rw [hb.block R h.lt]
  exact h
theorem RdAt.grown {w w' : World} {R : Nat} {s : ByteArray} {p : Nat} {row : Option Nat} (h : RdAt w R s p) (hg : w.grownBy w' row) (hr : some R ≠ row) : RdAt w' R s p := by
  unfold RdAt
  rw [hg.block R h.lt hr]
  exact h

theorem grown_refl (w : World) (row : Option Nat) : w.grownBy w row := ⟨rfl, rfl, rfl, Nat.le_refl _, fun _ _ _ => rfl⟩
theorem grown_trans {a b c : World} {row : Option Nat} (h : a.grownBy b row) (k : b.grownBy c row) : a.grownBy c row :=
  ⟨k.os.trans h.os, k.tape.trans h.tape, k.output.trans h.output, Nat.le_trans h.size k.size, fun i hi hn => (k.block i (Nat.lt_of_lt_of_le hi h.size) hn).trans (h.block i hi hn)⟩
theorem grown_set (w : World) (R : Nat) (j : Nat) (u : Value) : w.grownBy (w.setCell ⟨R, j, none⟩ u) (some R) :=
  ⟨rfl, rfl, rfl, by simp [World.setCell], fun k _ hn => Below.heap_setCell _ _ _ _ (fun e => hn (by rw [e]))⟩
theorem grown_drewN (w : World) (n : Nat) (row : Option Nat) : w.grownBy (w.drewN n) row := ⟨rfl, rfl, rfl, Nat.le_refl _, fun _ _ _ => rfl⟩
theorem grown_alloc {w w' : World} {row : Option Nat} (h : w.grownBy w' row) (o : Obj) : w.grownBy (w'.alloc o) row := grown_trans h (World.grownBy_alloc w' o row)

/-- What was read of s from p on, n bytes. -/
def cutS (s : ByteArray) (p n : Nat) : ByteArray := ⟨((s.data.toList.drop p).take n).toArray⟩
theorem cutS_extract (s : ByteArray) (p n : Nat) : s.extract p (p + n) = cutS s p n := by
  unfold cutS
  apply bytes_ext
  rw [ByteArray.toList_eq, ByteArray.toList_eq]
  simp

set_option maxHeartbeats 400000 in
theorem readBytes41 (R p n : Nat) (s : ByteArray) (w : World) (h : RdAt w R s p) (hp : p + n ≤ s.size) (hs : s.size ≤ 1000000000) :
    Calls Try.prog 41 #[.pointer (some ⟨R, 0, none⟩), .int .i64 n] w fun e w' => e = .returned (.string (cutS s p n)) ∧ RdAt w' R s (p + n) ∧ w.grownBy w' (some R) := by
  have c0 := h.c0
  have c1 := h.c1
  have z1 := h.fz 1
  have HR := Lib.hid h
  have hle : ¬ (s.size : Int) - (p : Int) < (n : Int) := by omega
  clear h
  go_enter Try.func41, Try.ntmps41
  go_wp2_with fail
  go_quiet (fail)
  go_wp2_with fail
  go_quiet (fail)
  go_wp2_with fail
  go_ret
  refine ⟨by rw [← cutS_extract]; rfl, ?_, ?_⟩
  · exact ((HR.out.drewN _).set' (p + n) _ (by omega)).drewN _
  · exact grown_trans (grown_trans (grown_drewN w _ _) (grown_set _ R 1 _)) (grown_drewN _ _ _)

/-- A reader's panic. -/
def failV (a e : Int) : Value := .iface 59 (.agg #[.int .i64 a, .int .i64 e])
def Fails (a e : Int) (o : Ending) : Prop := o = .panicked [{ v := failV a e, recovered := false }]

set_option maxHeartbeats 400000 in
theorem readBytes41_short (R p n : Nat) (s : ByteArray) (w : World) (h : RdAt w R s p) (hp : p ≤ s.size) (hn : s.size < p + n) (hn2 : n ≤ 9223372036854775807) :
    Calls Try.prog 41 #[.pointer (some ⟨R, 0, none⟩), .int .i64 n] w fun e w' => Fails s.size 3 e ∧ w.grownBy w' (some R) := by
  have c0 := h.c0
  have c1 := h.c1
  have HR := Lib.hid h
  have hle : (s.size : Int) - (p : Int) < (n : Int) := by omega
  clear h
  go_enter Try.func41, Try.ntmps41
  go_wp2_with fail
  go_quiet (fail)
  go_wp2_with fail
  exact ⟨rfl, rfl, grown_drewN w _ _⟩
end Go.Proofs.Ytdmalkkpcggifaa
