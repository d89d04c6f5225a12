/-
  Objects and cells, plain: the cell of a right object is right, is read as the object, and nothing else is. No condition.
-/
import Derived.Test.YtjanddnlhaionaaGreatDoorOL
namespace Go.Proofs.YtjanddnlhaionaaGreatDoor
open Go.RowKit
open L4 (C okC encC Fit bytesF)
open L2 (Row Vl rowsOK valOK rowOK okFrom)

set_option maxRecDepth 100000 in
theorem empty_of {s : ByteArray} (h : s.toList.isEmpty = true) : s = ⟨#[]⟩ := L4.toList_empty h

set_option maxRecDepth 100000 in
theorem empty_list : (⟨#[]⟩ : ByteArray).toList.isEmpty = true := by rw [ByteArray.toList_eq]; rfl
set_option maxRecDepth 100000 in
theorem vC_num (n : Int) (s : ByteArray) : vC (1, n, s) = numC n := if_neg (show ¬ ((1 : Int) = 2) by decide)
set_option maxRecDepth 100000 in
theorem vC_text (n : Int) (s : ByteArray) : vC (2, n, s) = textC s := if_pos rfl
/-! The shape of a cell. -/
set_option maxRecDepth 100000 in
theorem shOf_mk (k n : Int) (s : ByteArray) (l : List C) : shOf (.mk k n s l) = if k = 1 ∧ s.toList.isEmpty = true ∧ l.length = 0 then .num n else if k = 2 ∧ n = 0 ∧ l.length = 0 then .text s else if k = 3 ∧ n = 0 ∧ s.toList.isEmpty = true then .list l else .none := rfl
set_option maxRecDepth 100000 in
theorem sh_num {c : C} {n : Int} : shOf c = .num n ↔ c = numC n := by
  obtain ⟨k, m, s, l⟩ := c
  constructor
  · intro h
    rw [shOf_mk] at h
    by_cases h1 : k = 1 ∧ s.toList.isEmpty = true ∧ l.length = 0
    · rw [if_pos h1] at h
      injection h with h
      obtain ⟨rfl, h2, h3⟩ := h1
      rw [empty_of h2, List.length_eq_zero_iff.1 h3, h]; rfl
    · rw [if_neg h1] at h
      by_cases h2 : k = 2 ∧ m = 0 ∧ l.length = 0
      · rw [if_pos h2] at h; cases h
      · rw [if_neg h2] at h
        by_cases h3 : k = 3 ∧ m = 0 ∧ s.toList.isEmpty = true
        · rw [if_pos h3] at h; cases h
        · rw [if_neg h3] at h; cases h
  · intro h
    rw [h]
    unfold numC
    rw [shOf_mk]
    rw [if_pos ⟨rfl, empty_list, rfl⟩]
set_option maxRecDepth 100000 in
theorem sh_text {c : C} {t : ByteArray} : shOf c = .text t ↔ c = textC t := by
  obtain ⟨k, m, s, l⟩ := c
  constructor
  · intro h
    rw [shOf_mk] at h
    by_cases h1 : k = 1 ∧ s.toList.isEmpty = true ∧ l.length = 0
    · rw [if_pos h1] at h; cases h
    · rw [if_neg h1] at h
      by_cases h2 : k = 2 ∧ m = 0 ∧ l.length = 0
      · rw [if_pos h2] at h
        injection h with h
        obtain ⟨rfl, rfl, h3⟩ := h2
        rw [List.length_eq_zero_iff.1 h3, h]; rfl
      · rw [if_neg h2] at h
        by_cases h3 : k = 3 ∧ m = 0 ∧ s.toList.isEmpty = true
        · rw [if_pos h3] at h; cases h
        · rw [if_neg h3] at h; cases h
  · intro h
    rw [h]
    unfold textC
    rw [shOf_mk]
    rw [if_neg (by intro h; exact absurd h.1 (by decide)), if_pos ⟨rfl, rfl, rfl⟩]
set_option maxRecDepth 100000 in
theorem sh_list {c : C} {x : List C} : shOf c = .list x ↔ c = listC x := by
  obtain ⟨k, m, s, l⟩ := c
  constructor
  · intro h
    rw [shOf_mk] at h
    by_cases h1 : k = 1 ∧ s.toList.isEmpty = true ∧ l.length = 0
    · rw [if_pos h1] at h; cases h
    · rw [if_neg h1] at h
      by_cases h2 : k = 2 ∧ m = 0 ∧ l.length = 0
      · rw [if_pos h2] at h; cases h
      · rw [if_neg h2] at h
        by_cases h3 : k = 3 ∧ m = 0 ∧ s.toList.isEmpty = true
        · rw [if_pos h3] at h
          injection h with h
          obtain ⟨rfl, rfl, h4⟩ := h3
          rw [empty_of h4, h]; rfl
        · rw [if_neg h3] at h; cases h
  · intro h
    rw [h]
    unfold listC
    rw [shOf_mk]
    rw [if_neg (by intro h; exact absurd h.1 (by decide)), if_neg (by intro h; exact absurd h.1 (by decide)), if_pos ⟨rfl, rfl, empty_list⟩]
set_option maxRecDepth 100000 in
theorem sh_n (n : Int) : shOf (numC n) = .num n := sh_num.2 rfl
set_option maxRecDepth 100000 in
theorem sh_t (s : ByteArray) : shOf (textC s) = .text s := sh_text.2 rfl
set_option maxRecDepth 100000 in
theorem sh_l (l : List C) : shOf (listC l) = .list l := sh_list.2 rfl
set_option maxRecDepth 100000 in
theorem numM_some {sh : Sh} {n : Int} : numM sh = .some n ↔ sh = .num n := by cases sh <;> simp [numM]
set_option maxRecDepth 100000 in
theorem txtM_some {sh : Sh} {s : ByteArray} : txtM sh = .some s ↔ sh = .text s := by cases sh <;> simp [txtM]
set_option maxRecDepth 100000 in
theorem fields_of {l : List C} {n : Nat} (hl : l.length = n) (h : (l.map shOf).all Sh.some = true) : fieldsM (listC l) n = .some (l.map shOf) := by
  unfold fieldsM; rw [sh_l]; simp only; rw [if_pos ⟨hl, h⟩]
set_option maxRecDepth 100000 in
theorem fields_some {c : C} {n : Nat} {L : List Sh} (h : fieldsM c n = .some L) : ∃ l, c = listC l ∧ L = l.map shOf ∧ l.length = n ∧ L.all Sh.some = true := by
  unfold fieldsM at h
  cases hs : shOf c with
  | list l =>
    rw [hs] at h
    simp only at h
    by_cases h2 : l.length = n ∧ (l.map shOf).all Sh.some = true
    · rw [if_pos h2] at h
      injection h with h
      exact ⟨l, sh_list.1 hs, h.symm, h2.1, h ▸ h2.2⟩
    · rw [if_neg h2] at h; cases h
  | _ => rw [hs] at h; cases h

/-! Rows. -/
set_option maxRecDepth 100000 in
theorem val_k {v : Vl} (h : valOK v = true) : (v.1 = 1 ∧ v.2.2 = ⟨#[]⟩) ∨ (v.1 = 2 ∧ v.2.1 = 0 ∧ v.2.2.size ≤ 40) := by
  unfold valOK L2.validV at h
  simp only [Bool.or_eq_true, Bool.and_eq_true, beq_iff_eq, decide_eq_true_eq] at h
  rcases h with ⟨h1, h2⟩ | ⟨h1, h2, h3, _⟩
  · exact .inl ⟨h1, empty_of h2⟩
  · exact .inr ⟨h1, h2, by omega⟩
set_option maxRecDepth 100000 in
theorem row_read {r : Row} (h : valOK r.2.2 = true) : rowM (rowCl r) = .some r := by
  obtain ⟨f, e, k, n, s⟩ := r
  unfold rowM rowCl
  rcases val_k h with ⟨h1, h2⟩ | ⟨h1, h2, -⟩
  · simp only at h1 h2
    subst h1 h2
    have hf := fields_of (l := [numC f, numC e, numC n]) (n := 3) rfl (by simp [sh_n, Sh.some])
    simp only [vC_num]
    rw [hf]
    simp [sh_n, numM, Sh.val]
  · simp only at h1 h2
    subst h1 h2
    have hf := fields_of (l := [numC f, numC e, textC s]) (n := 3) rfl (by simp [sh_n, sh_t, Sh.some])
    simp only [vC_text]
    rw [hf]
    simp [sh_n, sh_t, numM, Sh.val]
set_option maxRecDepth 100000 in
theorem row_back {c : C} {r : Row} (h : rowM c = .some r) (hv : valOK r.2.2 = true) : c = rowCl r := by
  unfold rowM at h
  cases hf : fieldsM c 3 with
  | none => rw [hf] at h; cases h
  | some L =>
    obtain ⟨l, rfl, rfl, hl, -⟩ := fields_some hf
    match l, hl with
    | [a, b, v], _ =>
      rw [hf] at h
      simp only [List.map_cons, List.map_nil, Option.bind_eq_some_iff] at h
      obtain ⟨x, hx, y, hy, h⟩ := h
      injection h with h
      subst h
      rw [numM_some, sh_num] at hx hy
      subst hx hy
      unfold rowCl
      cases hs : shOf v with
      | num n => rw [sh_num.1 hs]; simp only [Sh.val, vC_num]
      | text s => rw [sh_text.1 hs]; simp only [Sh.val, vC_text]
      | none =>
        rw [hs] at hv
        simp only [Sh.val] at hv
        rcases val_k hv with ⟨h1, _⟩ | ⟨h1, _⟩ <;> simp at h1
      | list l =>
        rw [hs] at hv
        simp only [Sh.val] at hv
        rcases val_k hv with ⟨h1, _⟩ | ⟨h1, _⟩ <;> simp at h1
set_option maxRecDepth 100000 in
theorem all_read {α : Type} {f : C → Option α} {g : α → C} : ∀ (l : List α), (∀ x ∈ l, f (g x) = .some x) → allM f (l.map g) = .some l
  | [], _ => rfl
  | x :: l, h => by
    rw [List.map_cons, allM, h x (by simp), all_read l (fun y hy => h y (by simp [hy]))]; rfl
set_option maxRecDepth 100000 in
theorem all_back {α : Type} {f : C → Option α} {g : α → C} : ∀ (l : List C) (r : List α), allM f l = .some r → (∀ c x, x ∈ r → f c = .some x → c = g x) → l = r.map g
  | [], r, h, _ => by rw [allM] at h; injection h with h; subst h; rfl
  | c :: l, r, h, hb => by
    rw [allM, Option.bind_eq_some_iff] at h
    obtain ⟨x, hx, h⟩ := h
    rw [Option.bind_eq_some_iff] at h
    obtain ⟨y, hy, h⟩ := h
    injection h with h
    subst h
    rw [List.map_cons, hb c x (by simp) hx, all_back l y hy (fun c z hz => hb c z (by simp [hz]))]
set_option maxRecDepth 100000 in
theorem okFrom_all : ∀ (l : List Row) (p : Option Row), okFrom p l = true → ∀ r ∈ l, rowOK r = true
  | [], _, _, r, hr => by cases hr
  | x :: l, p, h, r, hr => by
    have h1 : rowOK x = true ∧ okFrom (some x) l = true := by
      cases p with
      | none => rw [okFrom, Bool.and_eq_true] at h; exact h
      | some p => rw [okFrom, Bool.and_eq_true, Bool.and_eq_true] at h; exact ⟨h.1, h.2.2⟩
    rcases List.mem_cons.1 hr with rfl | hr
    · exact h1.1
    · exact okFrom_all l _ h1.2 r hr
set_option maxRecDepth 100000 in
theorem rows_all {l : List Row} (h : rowsOK l = true) : l.length ≤ 64 ∧ ∀ r ∈ l, valOK r.2.2 = true ∧ 0 ≤ r.1 ∧ r.1 ≤ 1099511627776 ∧ 0 ≤ r.2.1 ∧ r.2.1 ≤ 1099511627776 := by
  unfold rowsOK at h
  rw [Bool.and_eq_true, decide_eq_true_eq] at h
  refine ⟨h.1, fun r hr => ?_⟩
  have := okFrom_all l _ h.2 r hr
  unfold rowOK at this
  rw [Bool.and_eq_true, L2.isSpanB_iff] at this
  exact ⟨this.2, by omega⟩
set_option maxRecDepth 100000 in
theorem rows_read {l : List Row} (h : rowsOK l = true) : listM rowM (.list (l.map rowCl)) = .some l := all_read l fun r hr => row_read ((rows_all h).2 r hr).1

/-! Kids and parents. -/
set_option maxRecDepth 100000 in
theorem kid_read {k : Kd} (h0 : 0 ≤ k.f) (h1 : k.f ≤ 255) : kidM (kidCl k) = .some k := by
  unfold kidM kidCl
  have hf := fields_of (l := [numC k.f, textC k.id]) (n := 2) rfl (by simp [sh_n, sh_t, Sh.some])
  rw [hf]
  simp [sh_n, sh_t, numM, txtM, h0, h1]
set_option maxRecDepth 100000 in
theorem kid_back {c : C} {k : Kd} (h : kidM c = .some k) : c = kidCl k ∧ 0 ≤ k.f ∧ k.f ≤ 255 := by
  unfold kidM at h
  cases hf : fieldsM c 2 with
  | none => rw [hf] at h; cases h
  | some L =>
    obtain ⟨l, rfl, rfl, hl, -⟩ := fields_some hf
    match l, hl with
    | [a, b], _ =>
      rw [hf] at h
      simp only [List.map_cons, List.map_nil, Option.bind_eq_some_iff] at h
      obtain ⟨x, hx, y, hy, h⟩ := h
      rw [numM_some, sh_num] at hx
      rw [txtM_some, sh_text] at hy
      subst hx hy
      by_cases hb : 0 ≤ x ∧ x ≤ 255
      · rw [if_pos hb] at h
        injection h with h
        subst h
        exact ⟨rfl, hb.1, hb.2⟩
      · rw [if_neg hb] at h; cases h
set_option maxRecDepth 100000 in
theorem text_read (s : ByteArray) : textM (textC s) = .some s := by unfold textM; rw [sh_t]; rfl
set_option maxRecDepth 100000 in
theorem text_back {c : C} {s : ByteArray} (h : textM c = .some s) : c = textC s := by
  unfold textM at h
  rw [txtM_some, sh_text] at h
  exact h
set_option maxRecDepth 100000 in
theorem list_some {α : Type} {f : C → Option α} {sh : Sh} {r : List α} (h : listM f sh = .some r) : ∃ l, sh = .list l ∧ allM f l = .some r := by
  cases sh with
  | list l => exact ⟨l, rfl, h⟩
  | _ => cases h
end Go.Proofs.YtjanddnlhaionaaGreatDoor
