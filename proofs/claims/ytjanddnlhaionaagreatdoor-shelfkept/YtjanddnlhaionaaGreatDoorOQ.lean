/-
  Objects and cells, plain: the round trip. No condition.
-/
import Derived.Test.YtjanddnlhaionaaGreatDoorOP
namespace Go.Proofs.YtjanddnlhaionaaGreatDoor
open Go.RowKit
open L4 (C okC encC Fit bytesF)
open L2 (Row Vl rowsOK valOK rowOK okFrom)

set_option maxRecDepth 100000 in
theorem kidsFrom_all : ∀ (l : List Kd) (p : Option Kd), kidsFrom p l = true → ∀ k ∈ l, k.id.size = 32
  | [], _, _, k, hk => by cases hk
  | x :: l, p, h, k, hk => by
    have h1 : isIdB x.id = true ∧ kidsFrom (some x) l = true := by
      cases p with
      | none => rw [kidsFrom, Bool.and_eq_true] at h; exact h
      | some p => rw [kidsFrom, Bool.and_eq_true, Bool.and_eq_true] at h; exact ⟨h.1, h.2.2⟩
    rcases List.mem_cons.1 hk with rfl | hk
    · have := h1.1; unfold isIdB at this; rw [beq_iff_eq] at this; omega
    · exact kidsFrom_all l _ h1.2 k hk
set_option maxRecDepth 100000 in
theorem parentsFrom_all : ∀ (l a : List ByteArray), parentsFrom a l = true → ∀ s ∈ l, s.size = 32
  | [], _, _, k, hk => by cases hk
  | x :: l, a, h, s, hs => by
    rw [parentsFrom, Bool.and_eq_true, Bool.and_eq_true] at h
    rcases List.mem_cons.1 hs with rfl | hs
    · have := h.1; unfold isIdB at this; rw [beq_iff_eq] at this; omega
    · exact parentsFrom_all l _ h.2.2 s hs

structure NodeP (o : Ob) : Prop where
  k : o.k = 1
  parents : o.parents = []
  stamp : o.stamp = 0
  note : o.note = ⟨#[]⟩
  root : o.root = ⟨#[]⟩
  label : o.label.size ≤ 24
  rows : rowsOK o.rows = true
  kids : kidsOK o.kids = true
set_option maxRecDepth 100000 in
theorem node_p {o : Ob} (h : nodeOK o = true) : NodeP o := by
  unfold nodeOK at h
  simp only [Bool.and_eq_true, beq_iff_eq, decide_eq_true_eq] at h
  obtain ⟨h1, ⟨h2, h3, h4, h5⟩, h6, h7, h8⟩ := h
  exact ⟨h1, List.length_eq_zero_iff.1 (by omega), h3, empty_of h4, empty_of h5, by omega, h7, h8⟩
structure CommitP (o : Ob) : Prop where
  k : o.k = 2
  label : o.label = ⟨#[]⟩
  rows : o.rows = []
  kids : o.kids = []
  parents : parentsOK o.parents = true
  stamp : 0 ≤ o.stamp ∧ o.stamp ≤ 1099511627776
  note : o.note.size ≤ 40
  root : o.root.size = 32
set_option maxRecDepth 100000 in
theorem commit_p {o : Ob} (h : commitOK o = true) : CommitP o := by
  unfold commitOK at h
  simp only [Bool.and_eq_true, beq_iff_eq, decide_eq_true_eq] at h
  obtain ⟨h1, ⟨h2, h3, h4⟩, h5, h6, h7, h8⟩ := h
  unfold isIdB at h8
  rw [beq_iff_eq] at h8
  exact ⟨h1, empty_of h2, List.length_eq_zero_iff.1 (by omega), List.length_eq_zero_iff.1 (by omega), h5, L2.isTimeB_iff.1 h6, by omega, by omega⟩
set_option maxRecDepth 100000 in
theorem obj_p {o : Ob} (h : objOK o = true) : NodeP o ∨ CommitP o := by
  unfold objOK at h
  rw [Bool.or_eq_true] at h
  exact h.imp node_p commit_p
set_option maxRecDepth 100000 in
theorem parents_p {l : List ByteArray} (h : parentsOK l = true) : l.length ≤ 2 ∧ ∀ s ∈ l, s.size = 32 := by
  unfold parentsOK at h
  rw [Bool.and_eq_true, Bool.not_eq_true', decide_eq_false_iff_not] at h
  exact ⟨by omega, parentsFrom_all l [] h.2⟩

/-! A right object's cell is right, and its bytes are few. -/
set_option maxRecDepth 100000 in
theorem ok_num (d : Nat) (n : Int) : okC (d + 1) (numC n) = true := by unfold numC; rw [L4.okC_succ, if_pos rfl, empty_list]; rfl
set_option maxRecDepth 100000 in
theorem ok_text (d : Nat) {s : ByteArray} (h : s.size ≤ 65535) : okC (d + 1) (textC s) = true := by
  unfold textC; rw [L4.okC_succ, if_neg (by decide), if_pos rfl]; simp [h]
set_option maxRecDepth 100000 in
theorem ok_list (d : Nat) {l : List C} (h : l.length ≤ 4095) (ha : ∀ x ∈ l, okC d x = true) : okC (d + 1) (listC l) = true := by
  unfold listC; rw [L4.okC_succ, if_neg (by decide), if_neg (by decide), if_pos rfl, empty_list]; simp [h]; exact ha
set_option maxRecDepth 100000 in
theorem fit_num (d : Nat) {n : Int} (h0 : -9223372036854775808 ≤ n) (h1 : n ≤ 9223372036854775807) : Fit (d + 1) (numC n) := (L4.Fit_succ _ _ _ _ _).2 ⟨h0, h1, by simp⟩
set_option maxRecDepth 100000 in
theorem fit_text (d : Nat) (s : ByteArray) : Fit (d + 1) (textC s) := (L4.Fit_succ _ _ _ _ _).2 ⟨by omega, by omega, by simp⟩
set_option maxRecDepth 100000 in
theorem fit_list (d : Nat) {l : List C} (h : ∀ x ∈ l, Fit d x) : Fit (d + 1) (listC l) := (L4.Fit_succ _ _ _ _ _).2 ⟨by omega, by omega, h⟩
set_option maxRecDepth 100000 in
theorem enc_num (d : Nat) (n : Int) : (encC (d + 1) (numC n)).length ≤ 9 := by
  unfold numC; rw [L4.encC_succ]
  have := L4.bytesF_length 8 (L4.baseOf 1 n ⟨#[]⟩ [])
  simp; omega
set_option maxRecDepth 100000 in
theorem enc_text (d : Nat) (s : ByteArray) : (encC (d + 1) (textC s)).length ≤ 9 + s.size := by
  unfold textC; rw [L4.encC_succ]
  have := L4.bytesF_length 8 (L4.baseOf 2 0 s [])
  have h2 := L4.size_data s
  simp only [List.length_cons, List.length_append, List.flatMap_nil, List.length_nil]
  omega
set_option maxRecDepth 100000 in
theorem flat_le {α : Type} (f : α → List UInt8) (K : Nat) : ∀ (l : List α), (∀ x ∈ l, (f x).length ≤ K) → (l.flatMap f).length ≤ l.length * K
  | [], _ => by simp
  | x :: l, h => by
    have h1 := h x (by simp)
    have h2 := flat_le f K l (fun y hy => h y (by simp [hy]))
    rw [List.flatMap_cons, List.length_append, List.length_cons, Nat.add_mul]
    omega
set_option maxRecDepth 100000 in
theorem enc_list (d : Nat) {l : List C} (K : Nat) (h : ∀ x ∈ l, (encC d x).length ≤ K) : (encC (d + 1) (listC l)).length ≤ 9 + l.length * K := by
  unfold listC; rw [L4.encC_succ]
  have := L4.bytesF_length 8 (L4.baseOf 3 0 ⟨#[]⟩ l)
  have h2 := flat_le (encC d) K l h
  simp only [List.length_cons, List.length_append, List.length_nil]
  omega

/-- Right, fit, and of at most K bytes. -/
structure Good (d : Nat) (K : Nat) (c : C) : Prop where
  ok : okC d c = true
  fit : Fit d c
  enc : (encC d c).length ≤ K
set_option maxRecDepth 100000 in
theorem good_num (d : Nat) {n : Int} (h0 : -9223372036854775808 ≤ n) (h1 : n ≤ 9223372036854775807) : Good (d + 1) 9 (numC n) := ⟨ok_num d n, fit_num d h0 h1, enc_num d n⟩
set_option maxRecDepth 100000 in
theorem good_text (d : Nat) {s : ByteArray} (h : s.size ≤ 65535) : Good (d + 1) (9 + s.size) (textC s) := ⟨ok_text d h, fit_text d s, enc_text d s⟩
set_option maxRecDepth 100000 in
theorem good_list (d : Nat) {l : List C} (K : Nat) (h : l.length ≤ 4095) (hg : ∀ x ∈ l, Good d K x) : Good (d + 1) (9 + l.length * K) (listC l) :=
  ⟨ok_list d h fun x hx => (hg x hx).ok, fit_list d fun x hx => (hg x hx).fit, enc_list d K fun x hx => (hg x hx).enc⟩
set_option maxRecDepth 100000 in
theorem Good.le {d K K' : Nat} {c : C} (h : Good d K c) (hk : K ≤ K') : Good d K' c := ⟨h.ok, h.fit, Nat.le_trans h.enc hk⟩

set_option maxRecDepth 100000 in
theorem good_row (d : Nat) {r : Row} (hv : valOK r.2.2 = true) (h0 : 0 ≤ r.1) (h1 : r.1 ≤ 1099511627776) (h2 : 0 ≤ r.2.1) (h3 : r.2.1 ≤ 1099511627776) (h4 : -9223372036854775808 ≤ r.2.2.2.1) (h5 : r.2.2.2.1 ≤ 9223372036854775807) : Good (d + 2) 200 (rowCl r) := by
  unfold rowCl
  refine (good_list (d + 1) 49 (by simp) (fun x hx => ?_)).le (by simp)
  simp only [List.mem_cons, List.not_mem_nil, or_false] at hx
  rcases hx with rfl | rfl | rfl
  · exact (good_num d (by omega) (by omega)).le (by omega)
  · exact (good_num d (by omega) (by omega)).le (by omega)
  · obtain ⟨f, e, k, n, s⟩ := r
    rcases val_k hv with ⟨k1, k2⟩ | ⟨k1, k2, k3⟩
    · simp only at k1 k2 h4 h5 ⊢
      subst k1 k2
      rw [vC_num]
      exact (good_num d h4 h5).le (by omega)
    · simp only at k1 k2 k3 ⊢
      subst k1 k2
      rw [vC_text]
      exact (good_text d (by omega)).le (by omega)
set_option maxRecDepth 100000 in
theorem good_kid (d : Nat) {k : Kd} (h0 : 0 ≤ k.f) (h1 : k.f ≤ 255) (h2 : k.id.size = 32) : Good (d + 2) 200 (kidCl k) := by
  unfold kidCl
  refine (good_list (d + 1) 49 (by simp) (fun x hx => ?_)).le (by simp)
  simp only [List.mem_cons, List.not_mem_nil, or_false] at hx
  rcases hx with rfl | rfl
  · exact (good_num d (by omega) (by omega)).le (by omega)
  · exact (good_text d (by omega)).le (by omega)
set_option maxRecDepth 100000 in
theorem good_rows (d : Nat) {l : List Row} (h : rowsOK l = true) (hn : ∀ r ∈ l, -9223372036854775808 ≤ r.2.2.2.1 ∧ r.2.2.2.1 ≤ 9223372036854775807) : Good (d + 3) 20000 (rowsCl l) := by
  obtain ⟨h1, h2⟩ := rows_all h
  unfold rowsCl
  refine (good_list (d + 2) 200 (by rw [List.length_map]; omega) (fun x hx => ?_)).le (by rw [List.length_map]; omega)
  obtain ⟨r, hr, rfl⟩ := List.mem_map.1 hx
  obtain ⟨a, b, c, e, f⟩ := h2 r hr
  exact good_row d a b c e f (hn r hr).1 (hn r hr).2

set_option maxRecDepth 100000 in
theorem obj_good {o : Ob} (h : objOK o = true) (hn : ∀ r ∈ o.rows, -9223372036854775808 ≤ r.2.2.2.1 ∧ r.2.2.2.1 ≤ 9223372036854775807) (hf : ∀ k ∈ o.kids, 0 ≤ k.f ∧ k.f ≤ 255) (hk : o.kids.length ≤ 500) : Good 16 900000 (cellOf o) := by
  unfold cellOf
  rcases obj_p h with p | p
  · rw [if_pos p.k]
    unfold nodeCl
    refine (good_list 15 200000 (by simp) (fun x hx => ?_)).le (by simp)
    simp only [List.mem_cons, List.not_mem_nil, or_false] at hx
    rcases hx with rfl | rfl | rfl | rfl
    · have := p.k; exact (good_num 14 (by omega) (by omega)).le (by omega)
    · have := p.label; exact (good_text 14 (by omega)).le (by omega)
    · exact (good_rows 12 p.rows hn).le (by omega)
    · unfold kidsCl
      refine (good_list 14 200 (by rw [List.length_map]; omega) (fun x hx => ?_)).le (by rw [List.length_map]; omega)
      obtain ⟨k, hk, rfl⟩ := List.mem_map.1 hx
      exact good_kid 12 (hf k hk).1 (hf k hk).2 (kidsFrom_all _ _ p.kids k hk)
  · rw [if_neg (by rw [p.k]; decide)]
    unfold commitCl
    refine (good_list 15 20000 (by simp) (fun x hx => ?_)).le (by simp)
    simp only [List.mem_cons, List.not_mem_nil, or_false] at hx
    rcases hx with rfl | rfl | rfl | rfl | rfl
    · have := p.k; exact (good_num 14 (by omega) (by omega)).le (by omega)
    · unfold textsCl
      obtain ⟨q1, q2⟩ := parents_p p.parents
      refine (good_list 14 91 (by rw [List.length_map]; omega) (fun x hx => ?_)).le (by rw [List.length_map]; omega)
      obtain ⟨s, hs, rfl⟩ := List.mem_map.1 hx
      have := q2 s hs
      exact (good_text 13 (by omega)).le (by omega)
    · have := p.stamp; exact (good_num 14 (by omega) (by omega)).le (by omega)
    · have := p.note; exact (good_text 14 (by omega)).le (by omega)
    · have := p.root; exact (good_text 14 (by omega)).le (by omega)

/-! What is read of a right object's cell; and what else is read as an object. -/
set_option maxRecDepth 100000 in
theorem node_read {o : Ob} (p : NodeP o) (hf : ∀ k ∈ o.kids, 0 ≤ k.f ∧ k.f ≤ 255) : nodeM (nodeCl o.k o.label o.rows o.kids) = .some o := by
  unfold nodeM nodeCl
  have h := fields_of (l := [numC o.k, textC o.label, rowsCl o.rows, kidsCl o.kids]) (n := 4) rfl (by simp [sh_n, sh_t, rowsCl, kidsCl, sh_l, Sh.some])
  rw [h]
  simp only [List.map_cons, List.map_nil, sh_n, sh_t, rowsCl, kidsCl, sh_l]
  rw [if_pos (by rw [p.k]; rfl), rows_read p.rows]
  have hk : listM kidM (.list (o.kids.map kidCl)) = .some o.kids := all_read o.kids fun k hk => kid_read (hf k hk).1 (hf k hk).2
  rw [hk]
  simp only [txtM, Option.bind_some]
  obtain ⟨a, b, c, d, e, f, g, i⟩ := o
  obtain ⟨p1, p2, p3, p4, p5, _, _, _⟩ := p
  simp only at p1 p2 p3 p4 p5
  subst p1 p2 p3 p4 p5
  rfl
set_option maxRecDepth 100000 in
theorem commit_read {o : Ob} (p : CommitP o) : commitM (commitCl o.k o.parents o.stamp o.note o.root) = .some o := by
  unfold commitM commitCl
  have h := fields_of (l := [numC o.k, textsCl o.parents, numC o.stamp, textC o.note, textC o.root]) (n := 5) rfl (by simp [sh_n, sh_t, textsCl, sh_l, Sh.some])
  rw [h]
  simp only [List.map_cons, List.map_nil, sh_n, sh_t, textsCl, sh_l]
  rw [if_pos (by rw [p.k]; rfl)]
  have hk : listM textM (.list (o.parents.map textC)) = .some o.parents := all_read o.parents fun s _ => text_read s
  rw [hk]
  simp only [txtM, numM, Option.bind_some]
  obtain ⟨a, b, c, d, e, f, g, i⟩ := o
  obtain ⟨p1, p2, p3, p4, _, _, _, _⟩ := p
  simp only at p1 p2 p3 p4
  subst p1 p2 p3 p4
  rfl
set_option maxRecDepth 100000 in
theorem node_not (kd : Int) (parents : List ByteArray) (stamp : Int) (note root : ByteArray) : nodeM (commitCl kd parents stamp note root) = .none := by
  unfold nodeM commitCl fieldsM
  rw [sh_l]
  simp
set_option maxRecDepth 100000 in
theorem obj_read {o : Ob} (h : objOK o = true) (hf : ∀ k ∈ o.kids, 0 ≤ k.f ∧ k.f ≤ 255) : objM (cellOf o) = .some o := by
  unfold objM cellOf
  rcases obj_p h with p | p
  · rw [if_pos p.k, node_read p hf]
  · rw [if_neg (by rw [p.k]; decide), node_not, commit_read p]
set_option maxRecDepth 100000 in
theorem obj_back {c : C} {o : Ob} (h : objM c = .some o) (hok : objOK o = true) : c = cellOf o ∧ ∀ k ∈ o.kids, 0 ≤ k.f ∧ k.f ≤ 255 := by
  unfold objM at h
  cases hn : nodeM c with
  | some o2 =>
    rw [hn] at h
    injection h with h
    subst h
    unfold nodeM at hn
    cases hf : fieldsM c 4 with
    | none => rw [hf] at hn; cases hn
    | some L =>
      obtain ⟨l, rfl, rfl, hl, -⟩ := fields_some hf
      match l, hl with
      | [a, b, r, k], _ =>
        rw [hf] at hn
        simp only [List.map_cons, List.map_nil] at hn
        by_cases h1 : numM (shOf a) = some 1
        · rw [if_pos h1] at hn
          simp only [Option.bind_eq_some_iff] at hn
          obtain ⟨x, hx, y, hy, z, hz, hn⟩ := hn
          injection hn with hn
          rw [numM_some, sh_num] at h1
          rw [txtM_some, sh_text] at hx
          obtain ⟨l1, e1, g1⟩ := list_some hy
          obtain ⟨l2, e2, g2⟩ := list_some hz
          rw [sh_list] at e1 e2
          subst h1 hx e1 e2 hn
          rcases obj_p hok with p | p
          · have hr := (rows_all p.rows).2
            have k1 := all_back l1 y g1 (fun c x hx hc => row_back hc (hr x hx).1)
            have k2 := all_back l2 z g2 (fun c x hx hc => (kid_back hc).1)
            subst k1 k2
            refine ⟨?_, fun k hk => ?_⟩
            · unfold cellOf; rw [if_pos rfl]; rfl
            · have : ∀ (l : List C) (z : List Kd), allM kidM l = some z → ∀ k ∈ z, 0 ≤ k.f ∧ k.f ≤ 255 := by
                intro l
                induction l with
                | nil => intro z hz k hk; rw [allM] at hz; injection hz with hz; subst hz; cases hk
                | cons c l ih =>
                  intro z hz k hk
                  rw [allM, Option.bind_eq_some_iff] at hz
                  obtain ⟨x, hx, hz⟩ := hz
                  rw [Option.bind_eq_some_iff] at hz
                  obtain ⟨y, hy, hz⟩ := hz
                  injection hz with hz
                  subst hz
                  rcases List.mem_cons.1 hk with rfl | hk
                  · exact (kid_back hx).2
                  · exact ih y hy k hk
              exact this _ _ g2 k hk
          · exact absurd p.k (by show ¬ ((1 : Int) = 2); decide)
        · rw [if_neg h1] at hn; cases hn
  | none =>
    rw [hn] at h
    simp only at h
    unfold commitM at h
    cases hf : fieldsM c 5 with
    | none => rw [hf] at h; cases h
    | some L =>
      obtain ⟨l, rfl, rfl, hl, -⟩ := fields_some hf
      match l, hl with
      | [a, p, t, n, r], _ =>
        rw [hf] at h
        simp only [List.map_cons, List.map_nil] at h
        by_cases h1 : numM (shOf a) = some 2
        · rw [if_pos h1] at h
          simp only [Option.bind_eq_some_iff] at h
          obtain ⟨x, hx, y, hy, z, hz, u, hu, h⟩ := h
          injection h with h
          rw [numM_some, sh_num] at h1 hy
          rw [txtM_some, sh_text] at hz hu
          obtain ⟨l1, e1, g1⟩ := list_some hx
          rw [sh_list] at e1
          have k1 := all_back l1 x g1 (fun c x _ hc => text_back hc)
          subst h1 hy hz hu e1 h k1
          refine ⟨?_, fun k hk => by cases hk⟩
          unfold cellOf; rw [if_neg (show ¬ ((2 : Int) = 1) by decide)]; rfl
        · rw [if_neg h1] at h; cases h
end Go.Proofs.YtjanddnlhaionaaGreatDoor
