/-
  The contracts of shapeOf and isKind. No condition.
-/
import Derived.Test.YtjanddnlhaionaaGreatDoorOE
namespace Go.Proofs.YtjanddnlhaionaaGreatDoor
open Go.RowKit
open L4 (C LAt)
open L2 (Row Vl RowsAt rowsOK valOK)

set_option maxRecDepth 100000 in
theorem shOf_eq (k n : Int) (s : ByteArray) (l : List C) : shOf (.mk k n s l) = if k = 1 ∧ s.toList.isEmpty = true ∧ l.length = 0 then .num n else if k = 2 ∧ n = 0 ∧ l.length = 0 then .text s else if k = 3 ∧ n = 0 ∧ s.toList.isEmpty = true then .list l else .none := rfl

def ShTo (w : World) (B d : Nat) (sh : Sh) (e : Ending) (w' : World) : Prop := ∃ v, e = .returned v ∧ ShAt w' B d v sh ∧ Below w.heap.size w w'

set_option maxRecDepth 100000 in
set_option maxHeartbeats 8000000 in
theorem shapeOf29 (d : Nat) (k n : Int) (s : ByteArray) (l : List C) (u : Value) (B : Nat) (w : World) (hBw : B ≤ w.heap.size) (h : LAt w B d u l) :
    Calls Tryz.prog 64 #[.agg #[.int .i64 k, .int .i64 n, .string s, u]] w (ShTo w B d (shOf (.mk k n s l))) := by
  obtain ⟨A, cap, rfl⟩ := h.slice
  have hB : Below w.heap.size w (w.alloc (.cells #[.int .i64 k, .int .i64 n, .string s, .slice A l.length cap] 38)) := (Below.refl _ _).alloc (Nat.le_refl _) _
  have HB := Lib.hid hB
  have HL : Hid (∀ q, LAt ((w.alloc (.cells #[.int .i64 k, .int .i64 n, .string s, .slice A l.length cap] 38)).drewN q) B d (.slice A l.length cap) l) := fun q => h.below ((L4.below_drewN hB q).mono hBw)
  clear h hB
  rw [shOf_eq]
  obtain ⟨q1, hq1⟩ : ∃ q, s.toList.isEmpty = q := ⟨_, rfl⟩
  obtain ⟨q2, hq2⟩ : ∃ q, decide (0 < l.length) = q := ⟨_, rfl⟩
  have H2 : Hid (l.length = 0 ↔ q2 = false) := by unfold Hid; rw [← hq2, decide_eq_false_iff_not]; omega
  rw [hq1]
  by_cases k1 : k = 1
  · subst k1
    cases q1 with
    | false =>
      rw [if_neg (by intro h; exact absurd h.2.1 (by decide)), if_neg (by intro h; exact absurd h.1 (by decide)), if_neg (by intro h; exact absurd h.1 (by decide))]
      cases q2 <;> (go_enter Tryz.func64, Tryz.ntmps64; go_wp2_with fail; go_quiet (fail); go_wp2; go_ret; exact ⟨_, rfl, rfl, L4.below_drewN HB.out _⟩)
    | true =>
      cases q2 with
      | true =>
        rw [if_neg (by intro h; exact absurd (H2.out.1 h.2.2) (by decide)), if_neg (by intro h; exact absurd h.1 (by decide)), if_neg (by intro h; exact absurd h.1 (by decide))]
        go_enter Tryz.func64, Tryz.ntmps64
        go_wp2_with fail
        go_quiet (fail)
        go_wp2
        go_ret
        exact ⟨_, rfl, rfl, L4.below_drewN HB.out _⟩
      | false =>
        rw [if_pos ⟨rfl, rfl, H2.out.2 rfl⟩]
        go_enter Tryz.func64, Tryz.ntmps64
        go_wp2_with fail
        go_quiet (fail)
        go_wp2
        go_ret
        exact ⟨_, rfl, rfl, L4.below_drewN HB.out _⟩
  rw [if_neg (fun h => k1 h.1)]
  by_cases k2 : k = 2
  · subst k2
    cases n0 : (n == 0) with
    | false =>
      rw [if_neg (by intro h; rw [h.2.1] at n0; exact absurd n0 (by decide)), if_neg (by intro h; exact absurd h.1 (by decide))]
      clear k1
      go_enter Tryz.func64, Tryz.ntmps64
      go_wp2_with fail
      go_quiet (fail)
      go_wp2
      go_ret
      exact ⟨_, rfl, rfl, L4.below_drewN HB.out _⟩
    | true =>
      have hn : n = 0 := by simpa using n0
      subst hn
      clear k1
      cases q2 with
      | true =>
        rw [if_neg (by intro h; exact absurd (H2.out.1 h.2.2) (by decide)), if_neg (by intro h; exact absurd h.1 (by decide))]
        go_enter Tryz.func64, Tryz.ntmps64
        go_wp2_with fail
        go_quiet (fail)
        go_wp2
        go_ret
        exact ⟨_, rfl, rfl, L4.below_drewN HB.out _⟩
      | false =>
        rw [if_pos ⟨rfl, rfl, H2.out.2 rfl⟩]
        go_enter Tryz.func64, Tryz.ntmps64
        go_wp2_with fail
        go_quiet (fail)
        go_wp2
        go_ret
        exact ⟨_, rfl, rfl, L4.below_drewN HB.out _⟩
  rw [if_neg (fun h => k2 h.1)]
  by_cases k3 : k = 3
  · subst k3
    clear k1 k2
    cases n0 : (n == 0) with
    | false =>
      rw [if_neg (by intro h; rw [h.2.1] at n0; exact absurd n0 (by decide))]
      go_enter Tryz.func64, Tryz.ntmps64
      go_wp2_with fail
      go_quiet (fail)
      go_wp2
      go_ret
      exact ⟨_, rfl, rfl, L4.below_drewN HB.out _⟩
    | true =>
      have hn : n = 0 := by simpa using n0
      subst hn
      cases q1 with
      | false =>
        rw [if_neg (by intro h; exact absurd h.2.2 (by decide))]
        go_enter Tryz.func64, Tryz.ntmps64
        go_wp2_with fail
        go_quiet (fail)
        go_wp2
        go_ret
        exact ⟨_, rfl, rfl, L4.below_drewN HB.out _⟩
      | true =>
        rw [if_pos ⟨rfl, rfl, rfl⟩]
        go_enter Tryz.func64, Tryz.ntmps64
        go_wp2_with fail
        go_quiet (fail)
        go_wp2
        go_ret
        exact ⟨_, rfl, ⟨_, rfl, HL.out _⟩, L4.below_drewN HB.out _⟩
  · rw [if_neg (fun h => k3 h.1)]
    have e1 : (k == 1) = false := by simpa using k1
    have e2 : (k == 2) = false := by simpa using k2
    have e3 : (k == 3) = false := by simpa using k3
    clear k1 k2 k3
    go_enter Tryz.func64, Tryz.ntmps64
    go_wp2_with fail
    go_quiet (fail)
    go_wp2
    go_ret
    exact ⟨_, rfl, rfl, L4.below_drewN HB.out _⟩

/-! What the type assertions say. -/
section
variable (w : World)
set_option maxRecDepth 100000 in
theorem as_nn (n : Int) : (Instr.typeAssert (.iface 183 (.int .i64 n)) 113 183 true).run Tryz.prog w = .ok (.tuple #[.int .i64 n, .bool true]) w := by kernel_rfl
set_option maxRecDepth 100000 in
theorem as_tn (s : ByteArray) : (Instr.typeAssert (.iface 184 (.string s)) 113 183 true).run Tryz.prog w = .ok (.tuple #[.int .i64 0, .bool false]) w := by kernel_rfl
set_option maxRecDepth 100000 in
theorem as_ln (A : Option Addr) (n c : Nat) : (Instr.typeAssert (.iface 180 (.slice A n c)) 113 183 true).run Tryz.prog w = .ok (.tuple #[.int .i64 0, .bool false]) w := by kernel_rfl
set_option maxRecDepth 100000 in
theorem as_nt (n : Int) : (Instr.typeAssert (.iface 183 (.int .i64 n)) 113 184 true).run Tryz.prog w = .ok (.tuple #[.string ⟨#[]⟩, .bool false]) w := by kernel_rfl
set_option maxRecDepth 100000 in
theorem as_tt (s : ByteArray) : (Instr.typeAssert (.iface 184 (.string s)) 113 184 true).run Tryz.prog w = .ok (.tuple #[.string s, .bool true]) w := by kernel_rfl
set_option maxRecDepth 100000 in
theorem as_lt (A : Option Addr) (n c : Nat) : (Instr.typeAssert (.iface 180 (.slice A n c)) 113 184 true).run Tryz.prog w = .ok (.tuple #[.string ⟨#[]⟩, .bool false]) w := by kernel_rfl
set_option maxRecDepth 100000 in
theorem as_nl (n : Int) : (Instr.typeAssert (.iface 183 (.int .i64 n)) 113 180 true).run Tryz.prog w = .ok (.tuple #[.slice none 0 0, .bool false]) w := by kernel_rfl
set_option maxRecDepth 100000 in
theorem as_tl (s : ByteArray) : (Instr.typeAssert (.iface 184 (.string s)) 113 180 true).run Tryz.prog w = .ok (.tuple #[.slice none 0 0, .bool false]) w := by kernel_rfl
set_option maxRecDepth 100000 in
theorem as_ll (A : Option Addr) (n c : Nat) : (Instr.typeAssert (.iface 180 (.slice A n c)) 113 180 true).run Tryz.prog w = .ok (.tuple #[.slice A n c, .bool true]) w := by kernel_rfl
set_option maxRecDepth 100000 in
theorem as_0n : (Instr.typeAssert .nilIface 113 183 true).run Tryz.prog w = .ok (.tuple #[.int .i64 0, .bool false]) w := by kernel_rfl
set_option maxRecDepth 100000 in
theorem as_0t : (Instr.typeAssert .nilIface 113 184 true).run Tryz.prog w = .ok (.tuple #[.string ⟨#[]⟩, .bool false]) w := by kernel_rfl
set_option maxRecDepth 100000 in
theorem as_0l : (Instr.typeAssert .nilIface 113 180 true).run Tryz.prog w = .ok (.tuple #[.slice none 0 0, .bool false]) w := by kernel_rfl
end

/-- What a comma-ok assertion to a number, a text, a list gives. -/
def numV : Sh → Int
  | .num n => n
  | _ => 0
def isNum : Sh → Bool
  | .num _ => true
  | _ => false
def txtV : Sh → ByteArray
  | .text s => s
  | _ => ⟨#[]⟩
def isTxt : Sh → Bool
  | .text _ => true
  | _ => false
set_option maxRecDepth 100000 in
theorem sh_slice {w : World} {B d : Nat} {v : Value} {l : List C} (h : ShAt w B d v (.list l)) : ∃ A cap, v = .iface 180 (.slice A l.length cap) ∧ LAt w B d (.slice A l.length cap) l := by
  obtain ⟨u, rfl, h⟩ := h
  obtain ⟨A, cap, rfl⟩ := h.slice
  exact ⟨A, cap, rfl, h⟩
set_option maxRecDepth 100000 in
theorem as_num {W : World} {B d : Nat} {v : Value} {sh : Sh} (h : ShAt W B d v sh) (w : World) : (Instr.typeAssert v 113 183 true).run Tryz.prog w = .ok (.tuple #[.int .i64 (numV sh), .bool (isNum sh)]) w := by
  cases sh with
  | none => rw [show v = .nilIface from h]; exact as_0n w
  | num n => rw [show v = .iface 183 (.int .i64 n) from h]; exact as_nn w n
  | text s => rw [show v = .iface 184 (.string s) from h]; exact as_tn w s
  | list l => obtain ⟨A, cap, rfl, _⟩ := sh_slice h; exact as_ln w _ _ _
set_option maxRecDepth 100000 in
theorem as_txt {W : World} {B d : Nat} {v : Value} {sh : Sh} (h : ShAt W B d v sh) (w : World) : (Instr.typeAssert v 113 184 true).run Tryz.prog w = .ok (.tuple #[.string (txtV sh), .bool (isTxt sh)]) w := by
  cases sh with
  | none => rw [show v = .nilIface from h]; exact as_0t w
  | num n => rw [show v = .iface 183 (.int .i64 n) from h]; exact as_nt w n
  | text s => rw [show v = .iface 184 (.string s) from h]; exact as_tt w s
  | list l => obtain ⟨A, cap, rfl, _⟩ := sh_slice h; exact as_lt w _ _ _
set_option maxRecDepth 100000 in
theorem as_lst {W : World} {B d : Nat} {v : Value} {sh : Sh} (h : ShAt W B d v sh) : (∃ l A cap, sh = .list l ∧ LAt W B d (.slice A l.length cap) l ∧ ∀ w, (Instr.typeAssert v 113 180 true).run Tryz.prog w = .ok (.tuple #[.slice A l.length cap, .bool true]) w) ∨
    ((∀ l, sh ≠ .list l) ∧ ∀ w, (Instr.typeAssert v 113 180 true).run Tryz.prog w = .ok (.tuple #[.slice none 0 0, .bool false]) w) := by
  cases sh with
  | none => right; exact ⟨by simp, fun w => by rw [show v = .nilIface from h]; exact as_0l w⟩
  | num n => right; exact ⟨by simp, fun w => by rw [show v = .iface 183 (.int .i64 n) from h]; exact as_nl w n⟩
  | text s => right; exact ⟨by simp, fun w => by rw [show v = .iface 184 (.string s) from h]; exact as_tl w s⟩
  | list l => left; obtain ⟨A, cap, rfl, h2⟩ := sh_slice h; exact ⟨l, A, cap, rfl, h2, fun w => as_ll w _ _ _⟩

set_option maxRecDepth 100000 in
theorem isKind61 {W : World} {B d : Nat} {v : Value} {sh : Sh} (h : ShAt W B d v sh) (kd : Int) (w : World) :
    Calls Tryz.prog 155 #[v, .int .i64 kd] w fun e w' => e = .returned (.bool (isNum sh && (numV sh == kd))) ∧ w = w' := by
  have ha := as_num h
  generalize isNum sh = q at ha ⊢
  generalize numV sh = n at ha ⊢
  cases q with
  | false =>
    show Calls _ _ _ _ fun e w' => e = .returned (.bool false) ∧ _
    go_enter Tryz.func155, Tryz.ntmps155
    go_wp2
    go_ret
    exact ⟨rfl, rfl⟩
  | true =>
    show Calls _ _ _ _ fun e w' => e = .returned (.bool (n == kd)) ∧ _
    go_enter Tryz.func155, Tryz.ntmps155
    go_wp2
    go_ret
    exact ⟨rfl, rfl⟩
end Go.Proofs.YtjanddnlhaionaaGreatDoor
