/-
  The contract of readNode. No condition but that the cell is right.
-/
import Derived.Test.YtjanddnlhaionaaGreatDoorOY
namespace Go.Proofs.YtjanddnlhaionaaGreatDoor
open Go.RowKit
open L4 (C LAt okC)
open L2 (Row Vl RowsAt rowsOK valOK)

set_option maxRecDepth 100000 in
theorem size27 : (Tryz.prog.info? 27).map (·.size) = some 8 := by kernel_rfl
def ob8 (k : Int) (label : ByteArray) (A1 : Option Addr) (n1 c1 : Nat) (A2 : Option Addr) (n2 c2 : Nat) (A3 : Option Addr) (n3 c3 : Nat) (st : Int) (note root : ByteArray) : Array Value :=
  #[.int .i64 k, .string label, .slice A1 n1 c1, .slice A2 n2 c2, .slice A3 n3 c3, .int .i64 st, .string note, .string root]
set_option maxRecDepth 100000 in
theorem one8 (k : Int) (label : ByteArray) (A1 : Option Addr) (n1 c1 : Nat) (A2 : Option Addr) (n2 c2 : Nat) (A3 : Option Addr) (n3 c3 : Nat) (st : Int) (note root : ByteArray) :
    (#[Value.int .i64 k, .string label, .slice A1 n1 c1, .slice A2 n2 c2, .slice A3 n3 c3, .int .i64 st, .string note, .string root]).all (·.oneCell') = true := by simp [Value.oneCell']
set_option maxRecDepth 100000 in
theorem FreshV.mono {lo lo' : Nat} {v : Value} (h : FreshV lo v) (hl : lo' ≤ lo) : FreshV lo' v := fun b o n c e => Nat.le_trans hl (h b o n c e)
set_option maxRecDepth 100000 in
theorem FreshV.nil (lo n c : Nat) : FreshV lo (.slice none n c) := fun b o n c e => by cases e
/-- What readNode and readCommit come to. -/
def ObTo (w : World) (r : Option Ob) (e : Ending) (w' : World) : Prop :=
  Below w.heap.size w w' ∧ ∃ k label A1 n1 c1 A2 n2 c2 A3 n3 c3 st note root q, e = .returned (.tuple #[.agg #[.int .i64 k, .string label, .slice A1 n1 c1, .slice A2 n2 c2, .slice A3 n3 c3, .int .i64 st, .string note, .string root], .bool q]) ∧
    match r with
    | some o => q = true ∧ (∃ rows kids parents, o = ⟨k, label, rows, kids, parents, st, note, root⟩) ∧ ObAt w' (.slice A1 n1 c1) (.slice A2 n2 c2) (.slice A3 n3 c3) o ∧ FreshV w.heap.size (.slice A1 n1 c1) ∧ FreshV w.heap.size (.slice A2 n2 c2) ∧ FreshV w.heap.size (.slice A3 n3 c3)
    | none => q = false

def RowsAns (w w' : World) (v : Value) (q : Bool) : Option (List Row) → Prop
  | some l => q = true ∧ RowsAt w' w'.heap.size v l ∧ FreshV w.heap.size v ∧ ∀ r ∈ l, NumB r
  | none => q = false
def KidsAns (w w' : World) (v : Value) (q : Bool) : Option (List Kd) → Prop
  | some l => q = true ∧ KidsAt w' w'.heap.size v l ∧ FreshV w.heap.size v
  | none => q = false
def TxtsAns (w w' : World) (v : Value) (q : Bool) : Option (List ByteArray) → Prop
  | some l => q = true ∧ TxtsAt w' w'.heap.size v l ∧ FreshV w.heap.size v
  | none => q = false
set_option maxRecDepth 100000 in
theorem rows_norm {w : World} {r : Option (List Row)} {e : Ending} {w' : World} (h : RowsTo w r e w') : Below w.heap.size w w' ∧ ∃ A n c q, e = .returned (.tuple #[.slice A n c, .bool q]) ∧ RowsAns w w' (.slice A n c) q r := by
  obtain ⟨hb, h⟩ := h
  refine ⟨hb, ?_⟩
  cases r with
  | none => exact ⟨none, 0, 0, false, h, rfl⟩
  | some l =>
    obtain ⟨v, rfl, h1, h2⟩ := h
    have h1' := h1
    obtain ⟨A, cap, rfl, -, -, -⟩ := h1'
    exact ⟨A, _, cap, true, rfl, rfl, h1, h2⟩
set_option maxRecDepth 100000 in
theorem kids_norm {w : World} {r : Option (List Kd)} {e : Ending} {w' : World} (h : KidsTo w r e w') : Below w.heap.size w w' ∧ ∃ A n c q, e = .returned (.tuple #[.slice A n c, .bool q]) ∧ KidsAns w w' (.slice A n c) q r := by
  obtain ⟨hb, h⟩ := h
  refine ⟨hb, ?_⟩
  cases r with
  | none => exact ⟨none, 0, 0, false, h, rfl⟩
  | some l =>
    obtain ⟨v, rfl, h1, h2⟩ := h
    have h1' := h1
    obtain ⟨A, cap, rfl, -, -, -⟩ := h1'
    exact ⟨A, _, cap, true, rfl, rfl, h1, h2⟩
set_option maxRecDepth 100000 in
theorem txts_norm {w : World} {r : Option (List ByteArray)} {e : Ending} {w' : World} (h : TxtsTo w r e w') : Below w.heap.size w w' ∧ ∃ A n c q, e = .returned (.tuple #[.slice A n c, .bool q]) ∧ TxtsAns w w' (.slice A n c) q r := by
  obtain ⟨hb, h⟩ := h
  refine ⟨hb, ?_⟩
  cases r with
  | none => exact ⟨none, 0, 0, false, h, rfl⟩
  | some l =>
    obtain ⟨v, rfl, h1, h2⟩ := h
    have h1' := h1
    obtain ⟨A, cap, rfl, -, -, -⟩ := h1'
    exact ⟨A, _, cap, true, rfl, rfl, h1, h2⟩

set_option maxRecDepth 100000 in
theorem okC_sub {d : Nat} {l : List C} (h : okC (d + 1) (listC l) = true) : l.length ≤ 4095 ∧ ∀ x ∈ l, okC d x = true := by
  unfold listC at h
  rw [L4.okC_succ, if_neg (by decide), if_neg (by decide), if_pos rfl] at h
  simp only [Bool.and_eq_true, decide_eq_true_eq, List.all_eq_true] at h
  exact ⟨h.2.2.1, h.2.2.2⟩
set_option maxRecDepth 100000 in
/-- The lists within a right cell are short. -/
theorem short_lists {c : C} {n : Nat} {L : List Sh} (hok : okC 16 c = true) (h : fieldsM c n = some L) : ∀ sh ∈ L, ∀ l, sh = .list l → l.length ≤ 100000 := by
  obtain ⟨l, rfl, rfl, -, -⟩ := fields_some h
  intro sh hsh l' e
  obtain ⟨x, hx, rfl⟩ := List.mem_map.1 hsh
  have h1 := (okC_sub hok).2 x hx
  rw [sh_list.1 e] at h1
  have := (okC_sub h1).1
  omega

set_option maxRecDepth 100000 in
theorem results_ob (f : Func) (hf : f.results = #[.cell 2 27, .tmp 3]) (tmps : Array Value) (w : World) (P : Nat) (k : Int) (label : ByteArray) (A1 : Option Addr) (n1 c1 : Nat) (A2 : Option Addr) (n2 c2 : Nat) (A3 : Option Addr) (n3 c3 : Nat) (st : Int) (note root : ByteArray) (q : Bool)
    (hp2 : tmps[2]?.getD undef = .pointer (some ⟨P, 0, none⟩)) (hp3 : tmps[3]?.getD undef = .bool q) (h0 : w.heap[P]? = some (.cells #[.int .i64 k, .string label, .slice A1 n1 c1, .slice A2 n2 c2, .slice A3 n3 c3, .int .i64 st, .string note, .string root] 27 (0, 0))) :
    (results f tmps).run Tryz.prog w = .ok (.tuple #[.agg #[.int .i64 k, .string label, .slice A1 n1 c1, .slice A2 n2 c2, .slice A3 n3 c3, .int .i64 st, .string note, .string root], .bool q]) w := by
  have p0 := cell_of_row w P 0 _ 27 (0, 0) h0
  have p1 := cell_of_row w P 1 _ 27 (0, 0) h0
  have p2 := cell_of_row w P 2 _ 27 (0, 0) h0
  have p3 := cell_of_row w P 3 _ 27 (0, 0) h0
  have p4 := cell_of_row w P 4 _ 27 (0, 0) h0
  have p5 := cell_of_row w P 5 _ 27 (0, 0) h0
  have p6 := cell_of_row w P 6 _ 27 (0, 0) h0
  have p7 := cell_of_row w P 7 _ 27 (0, 0) h0
  simp [results, hf, hp2, hp3, asAddr, go_sem, p0, p1, p2, p3, p4, p5, p6, p7]
end Go.Proofs.YtjanddnlhaionaaGreatDoor
