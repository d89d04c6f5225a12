import Derived.Test.YtecefhoinggmgaaJ
namespace Go.Proofs.Ytecefhoinggmgaa
open Go.RowKit

set_option maxHeartbeats 400000 in
theorem catch33 (p : Nat) (at' : Int) (x : Value) (older : List PanicEntry) (w : World) (hp : w.cell? ⟨p, 0, none⟩ = some x) (fp : w.frozen? ⟨p, 0, none⟩ = false) :
    CallsD Try.prog 56 #[.pointer (some ⟨p, 0, none⟩)] (.panicking ({ v := .iface 82 (.int .i64 at'), recovered := false } :: older)) w fun e m' w' =>
      e = .returned (.tuple #[]) ∧ m' = .panicking ({ v := .iface 82 (.int .i64 at'), recovered := true } :: older) ∧ w' = w.setCell ⟨p, 0, none⟩ (.int .i64 (-1)) := by
  refine callsD_of_wpS Try.func56 rfl fun c₀ cs hu => ?_
  apply wpS_seq
  apply wpS_region
  simp [wpOpsS, go_sem, recoverD, hu, Try.ntmps56, Exit.thenS]
  refine wpS_of_wp ?_
  go_wp2
  simp [bodyPostS, results, Try.results56]

theorem idle33 (p : Nat) (w : World) :
    CallsD Try.prog 56 #[.pointer (some ⟨p, 0, none⟩)] .returning w fun e m' w' => e = .returned (.tuple #[]) ∧ m' = .returning ∧ w = w' := by
  refine callsD_of_wpS Try.func56 rfl fun c₀ cs hu => ?_
  apply wpS_seq
  apply wpS_region
  simp [wpOpsS, go_sem, recoverD, hu, Try.ntmps56, Exit.thenS]
  refine wpS_of_wp ?_
  go_wp2
  cases c₀
  simp_all [bodyPostS, results, Try.results56]

def runesEnd : Nat ⊕ Int → Int
  | .inl _ => -1
  | .inr n => n
def runesR (l : List UInt8) : Int := runesEnd (runL countStep l.length 0 l 0)

set_option maxHeartbeats 400000 in
theorem runes18 (s : ByteArray) (w : World) (hs : s.size ≤ 5000) :
    Calls Try.prog 47 #[.string s] w fun e w' => e = .returned (.int .i64 (runesR s.data.toList)) ∧ Below w.heap.size w w' := by
  have hmf := hmf
  have hrd : Nd w.heap.size w.heap.size 0 (w.alloc (.cells #[.int .i64 0] 3)) := heap_alloc_new w _
  have hwalk := walkN s w.heap.size w.heap.size 0 _ (by omega) (Nat.le_refl _) hrd ⟨by omega, by omega⟩
  have hP : runesR s.data.toList = runesEnd (runL countStep s.size 0 s.data.toList 0) := rfl
  rw [hP]
  clear hP
  generalize runL countStep s.size 0 s.data.toList 0 = res at hwalk ⊢
  have hb0 : Below w.heap.size w (w.alloc (.cells #[.int .i64 0] 3)) := (Below.refl _ w).alloc (Nat.le_refl _) _
  cases res with
  | inl p =>
    rw [show runesEnd (.inl p) = -1 from rfl]
    have HW := Lib.hid hwalk
    clear hwalk hrd
    go_enter_defers Try.func47, Try.ntmps47
    go_wp2_with (go_at_call 57; go_must (refine HW.out.mono ?_); rintro e w1 ⟨rfl, ⟨n, hnd⟩, hb1⟩)
    have hc1 : w1.cell? ⟨w.heap.size, 0, none⟩ = some (.int .i64 n) := by rw [cell_of_row w1 _ _ _ 3 (0, 0) hnd]; rfl
    have hf1 : w1.frozen? ⟨w.heap.size, 0, none⟩ = false := by unfold Nd at hnd; simp [World.frozen?, hnd]
    have hbw := hb0.trans hb1
    refine leaves_cons (f := 56) (args := #[.pointer (some ⟨w.heap.size, 0, none⟩)]) (by simp) (by simp [go_sem]) ?_
    refine (catch33 w.heap.size p _ [] w1 hc1 hf1).mono ?_
    rintro e u' w'' ⟨rfl, rfl, rfl⟩
    simp [Leaves, settle, results, Try.results47, go_sem, hc1]
    exact hbw.setCell (Nat.le_refl _) _
  | inr n =>
    rw [show runesEnd (.inr n) = n from rfl]
    have HW := Lib.hid hwalk
    clear hwalk hrd
    go_enter_defers Try.func47, Try.ntmps47
    go_wp2_with fail
    refine HW.out.mono ?_
    rintro e w1 ⟨rfl, hnd, hok, hb1⟩
    have hc1 : w1.cell? ⟨w.heap.size, 0, none⟩ = some (.int .i64 n) := by rw [cell_of_row w1 _ _ _ 3 (0, 0) hnd]; rfl
    have hf1 : w1.frozen? ⟨w.heap.size, 0, none⟩ = false := by unfold Nd at hnd; simp [World.frozen?, hnd]
    have hbw := hb0.trans hb1
    clear hnd
    go_wp2
    refine leaves_cons (f := 56) (args := #[.pointer (some ⟨w.heap.size, 0, none⟩)]) (by simp) (by simp [go_sem]) ?_
    refine (idle33 w.heap.size _).mono ?_
    rintro e u' w'' ⟨rfl, rfl, rfl⟩
    simp [Leaves, settle, results, Try.results47, go_sem, hc1]
    exact hbw.setCell (Nat.le_refl _) _

def quoteEnd : Nat ⊕ List UInt8 → List UInt8 × Int
  | .inl _ => ([], 2)
  | .inr x => (x ++ [34], 0)
def quoteR (l : List UInt8) : List UInt8 × Int := quoteEnd (runL quoteStep l.length 0 l [34])

structure Res2 (w w1 : World) : Prop where
  p : w1.cell? ⟨w.heap.size, 0, none⟩ = some (.string ⟨#[]⟩)
  q : w1.cell? ⟨w.heap.size + 1, 0, none⟩ = some (.int .i64 0)
  fp : w1.frozen? ⟨w.heap.size, 0, none⟩ = false
  fq : w1.frozen? ⟨w.heap.size + 1, 0, none⟩ = false
end Go.Proofs.Ytecefhoinggmgaa
