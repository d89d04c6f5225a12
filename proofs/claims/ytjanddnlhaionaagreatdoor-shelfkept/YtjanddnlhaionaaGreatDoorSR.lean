/-
  How long an encoding is. No condition.
-/
import Derived.Test.YtjanddnlhaionaaGreatDoorSN
namespace Go.Proofs.YtjanddnlhaionaaGreatDoor
open Go.RowKit
open L4 (C okC encC putS putE)
open L2 (Row)

mutual
/-- At most so many bytes. -/
def esz : C → Nat
  | .mk _ _ s l => 9 + s.size + eszL l
def eszL : List C → Nat
  | [] => 0
  | x :: l => esz x + eszL l
end
theorem esz_mk (k n : Int) (s : ByteArray) (l : List C) : esz (.mk k n s l) = 9 + s.size + eszL l := by rw [esz]
theorem eszL_nil : eszL [] = 0 := by rw [eszL]
theorem eszL_cons (x : C) (l : List C) : eszL (x :: l) = esz x + eszL l := by rw [eszL]
theorem eszL_all {α : Type} (f : α → C) (B : Nat) : ∀ (l : List α), (∀ x ∈ l, esz (f x) ≤ B) → eszL (l.map f) ≤ l.length * B
  | [], _ => by rw [List.map_nil, eszL_nil]; exact Nat.zero_le _
  | x :: l, h => by
    rw [List.map_cons, eszL_cons, List.length_cons, Nat.succ_mul]
    have := h x (by simp)
    have := eszL_all f B l (fun y hy => h y (by simp [hy]))
    omega
theorem enc_esz : ∀ (d : Nat) (c : C), (encC d c).length ≤ esz c
  | 0, c => Nat.zero_le _
  | d + 1, .mk k n s l => by
    rw [L4.encC_succ, esz_mk]
    have h1 := L4.bytesF_length 8 (L4.baseOf k n s l)
    have h2 : ∀ l : List C, (l.flatMap (encC d)).length ≤ eszL l := by
      intro l
      induction l with
      | nil => rw [eszL_nil]; exact Nat.zero_le _
      | cons x l ih =>
        rw [List.flatMap_cons, List.length_append, eszL_cons]
        have := enc_esz d x
        omega
    have h3 := h2 l
    have h4 : s.data.toList.length = s.size := Array.length_toList
    simp only [List.length_cons, List.length_append]
    omega
theorem esz_num (n : Int) : esz (numC n) = 9 := by unfold numC; rw [esz_mk, eszL_nil]; rfl
theorem esz_text (s : ByteArray) : esz (textC s) = 9 + s.size := by unfold textC; rw [esz_mk, eszL_nil]; rfl
theorem esz_list (l : List C) : esz (listC l) = 9 + eszL l := by unfold listC; rw [esz_mk]; rfl
theorem esz_v (v : L2.Vl) (h : v.2.2.size ≤ 40) : esz (vC v) ≤ 49 := by
  unfold vC
  split
  · rw [esz_text]; omega
  · rw [esz_num]; omega
theorem esz_row (r : Row) (h : r.2.2.2.2.size ≤ 40) : esz (rowCl r) ≤ 76 := by
  unfold rowCl
  rw [esz_list, eszL_cons, eszL_cons, eszL_cons, eszL_nil, esz_num, esz_num]
  have := esz_v r.2.2 h
  omega
theorem esz_kid (k : Kd) (h : k.id.size = 32) : esz (kidCl k) ≤ 59 := by
  unfold kidCl
  rw [esz_list, eszL_cons, eszL_cons, eszL_nil, esz_num, esz_text]
  omega
/-- A valid object of few kids. -/
theorem obj_small {o : Ob} (h : objOK o = true) (hk : o.kids.length ≤ 60) : (objS o).size ≤ 8500 := by
  unfold objS
  rw [h]
  show (putS (cellOf o)).size ≤ 8500
  unfold putS
  split
  · show (encC 16 (cellOf o)).toArray.size ≤ 8500
    rw [List.size_toArray]
    refine Nat.le_trans (enc_esz _ _) ?_
    unfold cellOf
    rcases obj_p h with p | p
    · rw [if_pos p.k]
      unfold nodeCl rowsCl kidsCl
      rw [esz_list, eszL_cons, eszL_cons, eszL_cons, eszL_cons, eszL_nil, esz_num, esz_text, esz_list, esz_list]
      have h1 := eszL_all rowCl 76 o.rows (fun r hr => esz_row r (by
        have hr' := (rows_all p.rows).2 r hr
        rcases val_k hr'.1 with ⟨-, k2⟩ | ⟨-, -, k3⟩
        · rw [k2]; show (0 : Nat) ≤ _; omega
        · omega))
      have h2 := eszL_all kidCl 59 o.kids (fun k hk => esz_kid k (by have := kidsFrom_all _ _ p.kids k hk; omega))
      have h3 := (rows_all p.rows).1
      have h4 := p.label
      have h5 : o.rows.length * 76 ≤ 64 * 76 := Nat.mul_le_mul_right _ h3
      have h6 : o.kids.length * 59 ≤ 60 * 59 := Nat.mul_le_mul_right _ hk
      omega
    · rw [if_neg (by rw [p.k]; decide)]
      unfold commitCl textsCl
      rw [esz_list, eszL_cons, eszL_cons, eszL_cons, eszL_cons, eszL_cons, eszL_nil, esz_num, esz_num, esz_text, esz_text, esz_list]
      have hp := parents_p p.parents
      have h1 := eszL_all textC 41 o.parents (fun s hs => by rw [esz_text]; have := hp.2 s hs; omega)
      have h4 := p.note
      have h5 := p.root
      have h6 : o.parents.length * 41 ≤ 2 * 41 := Nat.mul_le_mul_right _ (by have := hp.1; omega)
      omega
  · show (0 : Nat) ≤ _; omega
end Go.Proofs.YtjanddnlhaionaaGreatDoor
