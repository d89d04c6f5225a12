/-
  Rows of rows, kids and strings that grow: for readList. No condition.
-/
import Derived.Test.YtjanddnlhaionaaGreatDoorOW
import Derived.Test.YtjanddnlhaionaaGreatDoorL2x1
namespace Go.Proofs.YtjanddnlhaionaaGreatDoor
open Go.RowKit
open L4 (C LAt)
open L2 (Row Vl RowsAt rowsOK valOK)

set_option maxRecDepth 100000 in
theorem info43 : ∃ i, Tryz.prog.info? 93 = some i ∧ i.zero = some (.agg #[.int .i64 0, .int .i64 0, .int .i64 0, .int .i64 0, .string ⟨#[]⟩]) ∧ i.size = 5 ∧ i.bytes = 48 := by
  have h : (Tryz.prog.info? 93).map (fun i => (i.zero, i.size, i.bytes)) = some (some (.agg #[.int .i64 0, .int .i64 0, .int .i64 0, .int .i64 0, .string ⟨#[]⟩]), 5, 48) := by kernel_rfl
  cases hq : Tryz.prog.info? 93 with
  | none => rw [hq] at h; cases h
  | some i =>
    rw [hq] at h
    simp only [Option.map_some, Option.some.injEq, Prod.mk.injEq] at h
    exact ⟨i, rfl, h.1, h.2.1, h.2.2⟩
set_option maxRecDepth 100000 in
theorem info55 : ∃ i, Tryz.prog.info? 95 = some i ∧ i.zero = some (.agg #[.int .u8 0, .string ⟨#[]⟩]) ∧ i.size = 2 ∧ i.bytes = 24 := by
  have h : (Tryz.prog.info? 95).map (fun i => (i.zero, i.size, i.bytes)) = some (some (.agg #[.int .u8 0, .string ⟨#[]⟩]), 2, 24) := by kernel_rfl
  cases hq : Tryz.prog.info? 95 with
  | none => rw [hq] at h; cases h
  | some i =>
    rw [hq] at h
    simp only [Option.map_some, Option.some.injEq, Prod.mk.injEq] at h
    exact ⟨i, rfl, h.1, h.2.1, h.2.2⟩
set_option maxRecDepth 100000 in
theorem info9 : ∃ i, Tryz.prog.info? 9 = some i ∧ i.zero = some (.string ⟨#[]⟩) ∧ i.size = 1 ∧ i.bytes = 16 := by
  have h : (Tryz.prog.info? 9).map (fun i => (i.zero, i.size, i.bytes)) = some (some (.string ⟨#[]⟩), 1, 16) := by kernel_rfl
  cases hq : Tryz.prog.info? 9 with
  | none => rw [hq] at h; cases h
  | some i =>
    rw [hq] at h
    simp only [Option.map_some, Option.some.injEq, Prod.mk.injEq] at h
    exact ⟨i, rfl, h.1, h.2.1, h.2.2⟩

def kidsC (l : List Kd) : List Value := l.flatMap fun k => [.int .u8 k.f, .string k.id]
def txtsC (l : List ByteArray) : List Value := l.map Value.string
set_option maxRecDepth 100000 in
theorem kidsC_append (a b : List Kd) : kidsC (a ++ b) = kidsC a ++ kidsC b := by simp [kidsC]
set_option maxRecDepth 100000 in
theorem kidsC_get : ∀ (l : List Kd) (i : Nat) (h : i < l.length), (kidsC l)[i * 2]? = some (.int .u8 l[i].f) ∧ (kidsC l)[i * 2 + 1]? = some (.string l[i].id)
  | k :: l, 0, _ => ⟨rfl, rfl⟩
  | k :: l, i + 1, h => by
    have e : kidsC (k :: l) = .int .u8 k.f :: .string k.id :: kidsC l := rfl
    have := kidsC_get l i (by simpa using h)
    rw [e, show (i + 1) * 2 = i * 2 + 1 + 1 by omega]
    exact this
set_option maxRecDepth 100000 in
theorem rg_rows {w W : World} {v : Value} {l : List Row} (h : RG 93 5 w v l.length (L2.rcells l) W) : RowsAt W W.heap.size v l := by
  rcases own_cells h.own with ⟨rfl, h0⟩ | ⟨g, cap, rfl, hb, hg, hnc, hcm, hc⟩
  · rw [List.length_eq_zero_iff.1 h0]; exact rowsNil _ _
  · refine ⟨_, cap, rfl, hnc, hcm, fun _ => ⟨g, 0, rfl, hg, fun i hi => ?_⟩⟩
    have hq : ∀ j, j < 5 → W.cell? ⟨g, 0 + i * 5 + j, none⟩ = (L2.rowC l[i])[j]? := fun j hj => by
      rw [Nat.zero_add, hc _ (by omega), L2.rcells_get l i j hi hj]
    exact ⟨hq 0 (by omega), hq 1 (by omega), hq 2 (by omega), hq 3 (by omega), hq 4 (by omega)⟩
set_option maxRecDepth 100000 in
theorem rg_kids {w W : World} {v : Value} {l : List Kd} (h : RG 95 2 w v l.length (kidsC l) W) (hf : ∀ k ∈ l, 0 ≤ k.f ∧ k.f ≤ 255) : KidsAt W W.heap.size v l := by
  rcases own_cells h.own with ⟨rfl, h0⟩ | ⟨g, cap, rfl, hb, hg, hnc, hcm, hc⟩
  · rw [List.length_eq_zero_iff.1 h0]; exact KidsAt.nil _ _
  · refine ⟨_, cap, rfl, hnc, hcm, fun _ => ⟨g, 0, rfl, hg, fun i hi => ?_⟩⟩
    obtain ⟨q1, q2⟩ := kidsC_get l i hi
    exact ⟨by rw [Nat.zero_add, hc _ (by omega)]; exact q1, by rw [Nat.zero_add, hc _ (by omega)]; exact q2, (hf _ (List.getElem_mem hi)).1, (hf _ (List.getElem_mem hi)).2⟩
set_option maxRecDepth 100000 in
theorem rg_txts {w W : World} {v : Value} {l : List ByteArray} (h : RG 9 1 w v l.length (txtsC l) W) : TxtsAt W W.heap.size v l := by
  rcases own_cells h.own with ⟨rfl, h0⟩ | ⟨g, cap, rfl, hb, hg, hnc, hcm, hc⟩
  · rw [List.length_eq_zero_iff.1 h0]; exact TxtsAt.nil _ _
  · refine ⟨_, cap, rfl, hnc, hcm, fun _ => ⟨g, 0, rfl, hg, fun i hi => ?_⟩⟩
    rw [Nat.zero_add, hc _ (by omega)]
    simp [txtsC, hi]

set_option maxRecDepth 100000 in
theorem lat_wf {w : World} {B d : Nat} {v : Value} {l : List C} (h : LAt w B d v l) : ∀ x ∈ l, L4.Wf x := by
  cases d with
  | zero => exact h.elim
  | succ d =>
    intro x hx
    obtain ⟨i, hi, rfl⟩ := List.getElem_of_mem hx
    obtain ⟨A, cap, -, -, -, h3⟩ := h
    obtain ⟨b, o, -, -, hr⟩ := h3 (by omega)
    obtain ⟨u, -, f, -⟩ := hr i hi
    exact f
def NumB (r : Row) : Prop := -9223372036854775808 ≤ r.2.2.2.1 ∧ r.2.2.2.1 ≤ 9223372036854775807
set_option maxRecDepth 100000 in
theorem row_num {c : C} {r : Row} (h : rowM c = some r) (hw : ∀ x ∈ c.l, L4.Wf x) : NumB r := by
  unfold rowM at h
  cases hf : fieldsM c 3 with
  | none => rw [hf] at h; cases h
  | some L =>
    obtain ⟨l, rfl, rfl, hl, -⟩ := fields_some hf
    match l, hl with
    | [a, b, v], _ =>
      rw [hf] at h
      simp only [List.map_cons, List.map_nil, Option.bind_eq_some_iff] at h
      obtain ⟨x, hx, y, hy, h⟩ := h
      injection h with h
      subst h
      unfold NumB
      simp only
      cases hs : shOf v with
      | num n =>
        have hv := hw v (by simp [listC, L4.l_mk])
        rw [sh_num.1 hs] at hv
        exact ⟨hv.n0, hv.n1⟩
      | text s => exact ⟨by show (-9223372036854775808 : Int) ≤ 0; omega, by show (0 : Int) ≤ _; omega⟩
      | none => exact ⟨by show (-9223372036854775808 : Int) ≤ 0; omega, by show (0 : Int) ≤ _; omega⟩
      | list l => exact ⟨by show (-9223372036854775808 : Int) ≤ 0; omega, by show (0 : Int) ≤ _; omega⟩

def addM {α : Type} (a : List α) (o : Option (List α)) : Option (List α) := o.map (a ++ ·)
set_option maxRecDepth 100000 in
theorem addM_nil {α : Type} (o : Option (List α)) : addM [] o = o := by cases o <;> rfl
set_option maxRecDepth 100000 in
theorem addM_cons {α : Type} {f : C → Option α} {a : List α} {c : C} {l : List C} {x : α} (h : f c = some x) : addM a (allM f (c :: l)) = addM (a ++ [x]) (allM f l) := by
  rw [allM, h]
  cases allM f l <;> simp [addM]
set_option maxRecDepth 100000 in
theorem addM_bad {α : Type} {f : C → Option α} {a : List α} {c : C} {l : List C} (h : f c = none) : addM a (allM f (c :: l)) = none := by
  rw [allM, h]; rfl
set_option maxRecDepth 100000 in
theorem addM_end {α : Type} {f : C → Option α} (a : List α) : addM a (allM f []) = some a := by rw [allM]; simp [addM]
set_option maxRecDepth 100000 in
theorem list_not {α : Type} {f : C → Option α} {sh : Sh} (h : ∀ l, sh ≠ .list l) : listM f sh = none := by
  cases sh with
  | list l => exact absurd rfl (h l)
  | _ => rfl

/-- A slice whose array, if it has one, lies from lo on. -/
def FreshV (lo : Nat) (v : Value) : Prop := ∀ b o n c, v = .slice (some ⟨b, o, none⟩) n c → lo ≤ b
set_option maxRecDepth 100000 in
theorem RG.fresh {T : TypeId} {k : Nat} {w : World} {v : Value} {n : Nat} {cells : List Value} {W : World} (h : RG T k w v n cells W) : FreshV w.heap.size v := by
  intro b o n' c e
  rcases own_cells h.own with ⟨rfl, _⟩ | ⟨g, cap, rfl, hb, -⟩
  · cases e
  · injection e with e _ _; injection e with e; injection e with e; omega
set_option maxRecDepth 100000 in
theorem rows_same {w w' : World} {B : Nat} {v : Value} {l : List Row} (h : RowsAt w B v l) (hk : ∀ b o n c, v = .slice (some ⟨b, o, none⟩) n c → ∀ o', w'.cell? ⟨b, o', none⟩ = w.cell? ⟨b, o', none⟩) : RowsAt w' B v l := by
  obtain ⟨A, cap, rfl, h1, h2, h3⟩ := h
  refine ⟨A, cap, rfl, h1, h2, fun hl => ?_⟩
  obtain ⟨b, o, rfl, hb, hr⟩ := h3 hl
  exact ⟨b, o, rfl, hb, fun i hi => (hr i hi).keep fun o' => hk b o _ _ rfl o'⟩
set_option maxRecDepth 100000 in
theorem kids_same {w w' : World} {B : Nat} {v : Value} {l : List Kd} (h : KidsAt w B v l) (hk : ∀ b o n c, v = .slice (some ⟨b, o, none⟩) n c → ∀ o', w'.cell? ⟨b, o', none⟩ = w.cell? ⟨b, o', none⟩) : KidsAt w' B v l := by
  obtain ⟨A, cap, rfl, h1, h2, h3⟩ := h
  refine ⟨A, cap, rfl, h1, h2, fun hl => ?_⟩
  obtain ⟨b, o, rfl, hb, hr⟩ := h3 hl
  exact ⟨b, o, rfl, hb, fun i hi => (hr i hi).keep fun o' => hk b o _ _ rfl o'⟩
set_option maxRecDepth 100000 in
theorem txts_same {w w' : World} {B : Nat} {v : Value} {l : List ByteArray} (h : TxtsAt w B v l) (hk : ∀ b o n c, v = .slice (some ⟨b, o, none⟩) n c → ∀ o', w'.cell? ⟨b, o', none⟩ = w.cell? ⟨b, o', none⟩) : TxtsAt w' B v l := by
  obtain ⟨A, cap, rfl, h1, h2, h3⟩ := h
  refine ⟨A, cap, rfl, h1, h2, fun hl => ?_⟩
  obtain ⟨b, o, rfl, hb, hr⟩ := h3 hl
  exact ⟨b, o, rfl, hb, fun i hi => (hk b o _ _ rfl _).trans (hr i hi)⟩

def RowsTo (w : World) (r : Option (List Row)) (e : Ending) (w' : World) : Prop :=
  Below w.heap.size w w' ∧ match r with
    | some l => ∃ v, e = .returned (.tuple #[v, .bool true]) ∧ RowsAt w' w'.heap.size v l ∧ FreshV w.heap.size v ∧ ∀ r ∈ l, NumB r
    | none => e = .returned (.tuple #[.slice none 0 0, .bool false])
def KidsTo (w : World) (r : Option (List Kd)) (e : Ending) (w' : World) : Prop :=
  Below w.heap.size w w' ∧ match r with
    | some l => ∃ v, e = .returned (.tuple #[v, .bool true]) ∧ KidsAt w' w'.heap.size v l ∧ FreshV w.heap.size v
    | none => e = .returned (.tuple #[.slice none 0 0, .bool false])
def TxtsTo (w : World) (r : Option (List ByteArray)) (e : Ending) (w' : World) : Prop :=
  Below w.heap.size w w' ∧ match r with
    | some l => ∃ v, e = .returned (.tuple #[v, .bool true]) ∧ TxtsAt w' w'.heap.size v l ∧ FreshV w.heap.size v
    | none => e = .returned (.tuple #[.slice none 0 0, .bool false])
end Go.Proofs.YtjanddnlhaionaaGreatDoor
