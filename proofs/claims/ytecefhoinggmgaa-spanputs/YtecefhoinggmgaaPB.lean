/-
  Plain lists: the spans between all bounds of rows and pieces, in their order. No condition.
-/
import Derived.Test.YtecefhoinggmgaaSA
namespace Go.Proofs.Ytecefhoinggmgaa

/-- The next bound of the first segment behind a time, or dflt. -/
def nxt {β : Type} (dflt from_ : Int) : List (Seg β) → Int
  | [] => dflt
  | r :: _ => edge from_ r.1 r.2.1
/-- The first segment is dropped if it ends at t. -/
def cutAt {β : Type} (t : Int) : List (Seg β) → List (Seg β)
  | [] => []
  | r :: rs => if r.2.1 = t then rs else r :: rs
def hasV (from_ : Int) : List Row → Vl
  | [] => vz
  | r :: _ => if r.1 ≤ from_ then r.2.2 else vz
def nxt2 (from_ : Int) (rows : List Row) (ps : List Pc) : Int :=
  match ps with
  | [] => nxt 1099511627776 from_ rows
  | p :: _ => min (nxt 1099511627776 from_ rows) (edge from_ p.1 p.2.1)
def around (d : List Pc) (from_ : Int) (pi : Nat) : Option (Fin d.length) :=
  if h : pi < d.length then (if d[pi].1 ≤ from_ then some ⟨pi, h⟩ else none) else none
def piNext (d : List Pc) (t : Int) (pi : Nat) : Nat :=
  if h : pi < d.length then (if d[pi].2.1 = t then pi + 1 else pi) else pi

abbrev Str (d : List Pc) := Row × Option (Fin d.length)

def strN (d : List Pc) : Nat → Int → List Row → Nat → List (Str d)
  | 0, _, _, _ => []
  | fuel + 1, from_, rows, pi =>
    if rows = [] ∧ d.length ≤ pi then []
    else ((from_, nxt2 from_ rows (d.drop pi), hasV from_ rows), around d from_ pi) :: strN d fuel (nxt2 from_ rows (d.drop pi)) (cutAt (nxt2 from_ rows (d.drop pi)) rows) (piNext d (nxt2 from_ rows (d.drop pi)) pi)

/-- How many bounds are still to come. -/
def nu {β : Type} (from_ : Int) : List (Seg β) → Nat
  | [] => 0
  | r :: rs => (if from_ < r.1 then 2 else 1) + 2 * rs.length

/-- What is left of segments at a time: sorted, the first one ends behind it; all end by E. -/
def Left {β : Type} (from_ E : Int) : List (Seg β) → Prop
  | [] => True
  | r :: rs => from_ < r.2.1 ∧ r.1 < r.2.1 ∧ Up r.2.1 rs ∧ ∀ x ∈ r :: rs, x.2.1 ≤ E

theorem Left.of_up {β : Type} {l : List (Seg β)} {E : Int} (h : Up 0 l) (hE : ∀ x ∈ l, x.2.1 ≤ E) : Left 0 E l := by
  cases l with
  | nil => trivial
  | cons r rs => obtain ⟨h1, h2, h3⟩ := h; exact ⟨by omega, h2, h3, hE⟩

theorem up_all {β : Type} : ∀ {l : List (Seg β)} {lo : Int}, Up lo l → ∀ x ∈ l, lo ≤ x.1 ∧ x.1 < x.2.1
  | [], _, _, x, hx => by cases hx
  | r :: rs, lo, h, x, hx => by
    rcases List.mem_cons.1 hx with rfl | hx
    · exact ⟨h.1, h.2.1⟩
    · have := up_all h.2.2 x hx
      have := h.1
      have := h.2.1
      exact ⟨by omega, by omega⟩

/-- One step: segments that are left at a time, up to a bound that lies no further than their own next one. -/
theorem Left.step {β : Type} {l : List (Seg β)} {a t E dflt : Int} (h : Left a E l) (h1 : a < t) (h2 : t ≤ nxt dflt a l ∨ l = []) : Left t E (cutAt t l) ∧ nu t (cutAt t l) ≤ nu a l ∧ (l ≠ [] → t = nxt dflt a l → nu t (cutAt t l) < nu a l) := by
  cases l with
  | nil => exact ⟨trivial, Nat.le_refl _, fun h => absurd rfl h⟩
  | cons r rs =>
    obtain ⟨l1, l2, l3, l4⟩ := h
    have h2 : t ≤ edge a r.1 r.2.1 := by
      rcases h2 with h2 | h2
      · exact h2
      · cases h2
    have hed : edge a r.1 r.2.1 = if a < r.1 then r.1 else r.2.1 := rfl
    show Left t E (if r.2.1 = t then rs else r :: rs) ∧ nu t (if r.2.1 = t then rs else r :: rs) ≤ _ ∧ (_ → t = edge a r.1 r.2.1 → nu t (if r.2.1 = t then rs else r :: rs) < _)
    by_cases he : r.2.1 = t
    · simp only [he, if_true]
      have hna : ¬ a < r.1 := by
        intro x
        rw [hed, if_pos x] at h2
        omega
      refine ⟨?_, ?_, fun _ _ => ?_⟩
      · cases rs with
        | nil => trivial
        | cons q qs =>
          obtain ⟨u1, u2, u3⟩ := l3
          exact ⟨by omega, u2, u3, fun x hx => l4 x (List.mem_cons_of_mem _ hx)⟩
      · cases rs with
        | nil => simp [nu]
        | cons q qs => simp only [nu, List.length_cons]; (repeat' split) <;> omega
      · cases rs with
        | nil => simp only [nu]; split <;> simp
        | cons q qs => simp only [nu, List.length_cons, if_neg hna]; split <;> omega
    · simp only [he, if_false]
      have hlt : t < r.2.1 := by
        rw [hed] at h2
        split at h2 <;> omega
      refine ⟨⟨hlt, l2, l3, l4⟩, ?_, fun _ ht => ?_⟩
      · simp only [nu]
        split <;> split <;> omega
      · rw [hed] at ht
        split at ht
        · rename_i hx
          simp only [nu, if_pos hx]
          rw [if_neg (by omega)]
          omega
        · omega

theorem nxt_gt {β : Type} {l : List (Seg β)} {a E dflt : Int} (h : Left a E l) (hd : a < dflt) : a < nxt dflt a l := by
  cases l with
  | nil => exact hd
  | cons r rs =>
    show a < edge a r.1 r.2.1
    have := h.1
    unfold edge
    split <;> omega
theorem nxt_le {β : Type} {l : List (Seg β)} {a E : Int} (h : Left a E l) : nxt E a l ≤ E := by
  cases l with
  | nil => exact Int.le_refl _
  | cons r rs =>
    show edge a r.1 r.2.1 ≤ E
    have := h.2.2.2 r List.mem_cons_self
    have := h.2.1
    unfold edge
    split <;> omega

theorem drop_piNext (d : List Pc) (t : Int) (pi : Nat) : d.drop (piNext d t pi) = cutAt t (d.drop pi) := by
  unfold piNext
  by_cases h : pi < d.length
  · rw [dif_pos h, drop_get d pi h]
    show _ = if d[pi].2.1 = t then d.drop (pi + 1) else _ :: _
    split
    · rfl
    · rw [drop_get d pi h]
  · rw [dif_neg h, List.drop_of_length_le (by omega)]; rfl

theorem nxt2_eq (a : Int) (rows : List Row) (ps : List Pc) : nxt2 a rows ps = if ps = [] then nxt 1099511627776 a rows else min (nxt 1099511627776 a rows) (nxt 1099511627776 a ps) := by
  cases ps <;> rfl

/-- What a step of the iterator comes to. -/
theorem step_left {d : List Pc} {a : Int} {rows : List Row} {pi : Nat} (hr : Left a 1099511627776 rows) (hp : Left a 1099511627776 (d.drop pi)) (hne : ¬ (rows = [] ∧ d.length ≤ pi)) :
    a < nxt2 a rows (d.drop pi) ∧ nxt2 a rows (d.drop pi) ≤ 1099511627776 ∧ Left (nxt2 a rows (d.drop pi)) 1099511627776 (cutAt (nxt2 a rows (d.drop pi)) rows) ∧
      Left (nxt2 a rows (d.drop pi)) 1099511627776 (d.drop (piNext d (nxt2 a rows (d.drop pi)) pi)) ∧
      nu (nxt2 a rows (d.drop pi)) (cutAt (nxt2 a rows (d.drop pi)) rows) + nu (nxt2 a rows (d.drop pi)) (d.drop (piNext d (nxt2 a rows (d.drop pi)) pi)) < nu a rows + nu a (d.drop pi) := by
  rw [drop_piNext]
  have hps : d.drop pi = [] ↔ d.length ≤ pi := List.drop_eq_nil_iff
  generalize d.drop pi = ps at hp hps
  have haT : a < 1099511627776 := by
    cases rows with
    | cons r rs => have := hr.1; have := hr.2.2.2 r List.mem_cons_self; omega
    | nil =>
      cases ps with
      | cons p ps => have := hp.1; have := hp.2.2.2 p List.mem_cons_self; omega
      | nil => exact (hne ⟨rfl, hps.1 rfl⟩).elim
  have g1 := nxt_gt hr haT
  have g2 := nxt_gt hp haT
  have k1 := nxt_le hr
  have k2 := nxt_le hp
  rw [nxt2_eq]
  by_cases hpe : ps = []
  · subst hpe
    rw [if_pos rfl]
    have hrn : rows ≠ [] := fun e => hne ⟨e, hps.1 rfl⟩
    obtain ⟨s1, s2, s3⟩ := hr.step (dflt := 1099511627776) g1 (.inl (Int.le_refl _))
    refine ⟨g1, k1, s1, trivial, ?_⟩
    have := s3 hrn rfl
    show nu _ (cutAt _ rows) + 0 < nu a rows + 0
    omega
  · rw [if_neg hpe]
    have hm1 : min (nxt 1099511627776 a rows) (nxt 1099511627776 a ps) ≤ nxt 1099511627776 a rows := Int.min_le_left _ _
    have hm2 : min (nxt 1099511627776 a rows) (nxt 1099511627776 a ps) ≤ nxt 1099511627776 a ps := Int.min_le_right _ _
    have hm3 : min (nxt 1099511627776 a rows) (nxt 1099511627776 a ps) = nxt 1099511627776 a rows ∨ min (nxt 1099511627776 a rows) (nxt 1099511627776 a ps) = nxt 1099511627776 a ps := by omega
    have hm4 : a < min (nxt 1099511627776 a rows) (nxt 1099511627776 a ps) := by omega
    generalize min (nxt 1099511627776 a rows) (nxt 1099511627776 a ps) = m at hm1 hm2 hm3 hm4
    obtain ⟨s1, s2, s3⟩ := hr.step (dflt := 1099511627776) hm4 (.inl hm1)
    obtain ⟨t1, t2, t3⟩ := hp.step (dflt := 1099511627776) hm4 (.inl hm2)
    refine ⟨hm4, by omega, s1, t1, ?_⟩
    rcases hm3 with e | e
    · by_cases hrn : rows = []
      · subst hrn
        have : m = nxt 1099511627776 a ps := by
          have h0 : nxt 1099511627776 a ([] : List Row) = 1099511627776 := rfl
          omega
        have := t3 hpe this
        omega
      · have := s3 hrn e; omega
    · have := t3 hpe e; omega
end Go.Proofs.Ytecefhoinggmgaa
