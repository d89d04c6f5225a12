/-
  Plain lists: segments of time with values, their canonical form, and that it is one. No condition. Contracts of the small functions of package span and of the document's answer. No condition. Contracts of Had, few, Same and SamePieces. No condition. Contracts of span.Check and of the document's Right and Check. No condition. Rows that a call owns; the contract of span.addRow. No condition.
-/
import Derived.Test.YtjanddnlhaionaaGreatDoorL2x0
import Derived.Deep.QuietTactic
import Derived.BigQuiet
import Derived.Deep.RegionHeld3
import Derived.IntWalk
import Derived.Test.YtjanddnlhaionaaGreatDoorRows
import Derived.WalkKit
import Derived.ProofKit
import Derived.OpenShut
import Derived.ShutString
import Derived.Lib.SmallJoins
import Derived.Deep.AppendLies
import Derived.OwnWalk
namespace Go.Proofs.YtjanddnlhaionaaGreatDoor.L2

abbrev Seg (α : Type) := Int × Int × α

section
variable {α : Type}

def lk : List (Seg α) → Int → Option α
  | [], _ => none
  | x :: r, t => if x.1 ≤ t ∧ t < x.2.1 then some x.2.2 else lk r t

/-- Sorted and apart, from lo on. -/
def Up : Int → List (Seg α) → Prop
  | _, [] => True
  | lo, x :: r => lo ≤ x.1 ∧ x.1 < x.2.1 ∧ Up x.2.1 r

/-- Canonical: sorted, and no two that touch have one value; all of it ends at E or before. -/
def CE : Int → Option α → List (Seg α) → Int → Prop
  | lo, _, [], E => lo ≤ E
  | lo, pv, x :: r, E => lo ≤ x.1 ∧ x.1 < x.2.1 ∧ ¬ (x.1 = lo ∧ pv = some x.2.2) ∧ CE x.2.1 (some x.2.2) r E

set_option maxRecDepth 100000 in
theorem CE.up : ∀ {l : List (Seg α)} {lo : Int} {pv : Option α} {E : Int}, CE lo pv l E → Up lo l
  | [], _, _, _, _ => trivial
  | _ :: _, _, _, _, h => ⟨h.1, h.2.1, h.2.2.2.up⟩
set_option maxRecDepth 100000 in
theorem CE.le : ∀ {l : List (Seg α)} {lo : Int} {pv : Option α} {E : Int}, CE lo pv l E → lo ≤ E
  | [], _, _, _, h => h
  | x :: r, _, _, _, h => by have h1 := h.2.2.2.le; have := h.1; have := h.2.1; omega
set_option maxRecDepth 100000 in
theorem CE.mono : ∀ {l : List (Seg α)} {lo : Int} {pv : Option α} {E E' : Int}, CE lo pv l E → E ≤ E' → CE lo pv l E'
  | [], _, _, _, _, h, h' => Int.le_trans h h'
  | _ :: _, _, _, _, _, h, h' => ⟨h.1, h.2.1, h.2.2.1, h.2.2.2.mono h'⟩
set_option maxRecDepth 100000 in
theorem CE.from_ : ∀ {l : List (Seg α)} {lo lo' : Int} {E : Int}, CE lo none l E → lo' ≤ lo → CE lo' none l E
  | [], _, _, _, h, h' => Int.le_trans h' h
  | _ :: _, _, _, _, h, h' => ⟨Int.le_trans h' h.1, h.2.1, by simp, h.2.2.2⟩
set_option maxRecDepth 100000 in
theorem CE.any : ∀ {l : List (Seg α)} {lo : Int} {pv : Option α} {E : Int}, CE lo pv l E → CE lo none l E
  | [], _, _, _, h => h
  | _ :: _, _, _, _, h => ⟨h.1, h.2.1, by simp, h.2.2.2⟩
set_option maxRecDepth 100000 in
theorem Up.from_ : ∀ {l : List (Seg α)} {lo lo' : Int}, Up lo l → lo' ≤ lo → Up lo' l
  | [], _, _, _, _ => trivial
  | _ :: _, _, _, h, h' => ⟨Int.le_trans h' h.1, h.2⟩

set_option maxRecDepth 100000 in
theorem lk_before : ∀ {l : List (Seg α)} {lo t : Int}, Up lo l → t < lo → lk l t = none
  | [], _, _, _, _ => rfl
  | x :: r, lo, t, h, ht => by
    have h1 := h.1
    have h2 := h.2.1
    rw [lk, if_neg (by omega)]
    exact lk_before h.2.2 (by omega)
set_option maxRecDepth 100000 in
theorem lk_after : ∀ {l : List (Seg α)} {lo E t : Int} {pv : Option α}, CE lo pv l E → E ≤ t → lk l t = none
  | [], _, _, _, _, _, _ => rfl
  | x :: r, lo, E, t, _, h, ht => by
    have h1 := h.2.2.2.le
    rw [lk, if_neg (by omega)]
    exact lk_after h.2.2.2 ht
set_option maxRecDepth 100000 in
theorem lk_tail {x : Seg α} {r : List (Seg α)} {t : Int} (ht : x.2.1 ≤ t) : lk (x :: r) t = lk r t := by
  rw [lk, if_neg (by omega)]

set_option maxRecDepth 100000 in
/-- The canonical form is one. -/
theorem canon_eq : ∀ {l l' : List (Seg α)} {lo E E' : Int} {pv pv' : Option α}, CE lo pv l E → CE lo pv' l' E' → (∀ t, lo ≤ t → lk l t = lk l' t) → l = l'
  | [], [], _, _, _, _, _, _, _, _ => rfl
  | [], y :: r', lo, _, _, _, _, _, h', hh => by
    have h1 := h'.1
    have h2 := h'.2.1
    have := hh y.1 h1
    rw [lk, lk, if_pos (by omega)] at this
    cases this
  | x :: r, [], lo, _, _, _, _, h, _, hh => by
    have h1 := h.1
    have h2 := h.2.1
    have := hh x.1 h1
    rw [lk, lk, if_pos (by omega)] at this
    cases this
  | x :: r, y :: r', lo, E, E', pv, pv', h, h', hh => by
    obtain ⟨f, e, v⟩ := x
    obtain ⟨f', e', v'⟩ := y
    obtain ⟨h1, h2, _, h4⟩ := h
    obtain ⟨g1, g2, _, g4⟩ := h'
    simp only at h1 h2 h4 g1 g2 g4
    have hf : f = f' := by
      rcases Int.lt_trichotomy f f' with a | a | a
      · have := hh f h1
        rw [lk, if_pos (by simp only; omega), lk, if_neg (by simp only; omega), lk_before g4.up (by omega)] at this
        cases this
      · exact a
      · have := hh f' g1
        rw [lk, if_neg (by simp only; omega), lk_before h4.up (by omega), lk, if_pos (by simp only; omega)] at this
        cases this
    subst hf
    have hv : v = v' := by
      have := hh f h1
      rw [lk, if_pos (by simp only; omega), lk, if_pos (by simp only; omega)] at this
      injection this
    subst hv
    have key : ∀ {r : List (Seg α)} {e e' E : Int}, CE e (some v) r E → e < e' → lk r e ≠ some v := by
      intro r e e' E hc hlt hk
      cases r with
      | nil => cases hk
      | cons z r =>
        obtain ⟨c1, c2, c3, c4⟩ := hc
        by_cases hz : z.1 = e
        · rw [lk, if_pos (by omega)] at hk
          exact c3 ⟨hz, hk.symm⟩
        · rw [lk, if_neg (by omega), lk_before c4.up (by omega)] at hk
          cases hk
    have he : e = e' := by
      rcases Int.lt_trichotomy e e' with a | a | a
      · have := hh e (by omega)
        rw [lk, if_neg (by simp only; omega), lk, if_pos (by simp only; omega)] at this
        exact (key h4 a this).elim
      · exact a
      · have := hh e' (by omega)
        rw [lk, if_pos (by simp only; omega), lk, if_neg (by simp only; omega)] at this
        exact (key g4 a this.symm).elim
    subst he
    have hr : r = r' := canon_eq h4 g4 fun t ht => by
      have := hh t (by omega)
      rw [lk, if_neg (by simp only; omega), lk, if_neg (by simp only; omega)] at this
      exact this
    rw [hr]

section
variable [DecidableEq α]
/-- One more behind; it is one with the last one that it touches and that has its value. -/
def addL : List (Seg α) → Seg α → List (Seg α)
  | [], x => [x]
  | [y], x => if y.2.1 = x.1 ∧ y.2.2 = x.2.2 then [(y.1, x.2.1, y.2.2)] else [y, x]
  | y :: z :: r, x => y :: addL (z :: r) x

set_option maxRecDepth 100000 in
theorem addL_ne : ∀ (l : List (Seg α)) (x : Seg α), addL l x ≠ []
  | [], x => by simp [addL]
  | [y], x => by unfold addL; split <;> simp
  | _ :: _ :: _, _ => by simp [addL]

set_option maxRecDepth 100000 in
theorem addL_length : ∀ (l : List (Seg α)) (x : Seg α), l.length ≤ (addL l x).length ∧ (addL l x).length ≤ l.length + 1
  | [], x => by simp [addL]
  | [y], x => by unfold addL; split <;> simp
  | _ :: z :: r, x => by have := addL_length (z :: r) x; simp only [addL, List.length_cons] at this ⊢; omega

set_option maxRecDepth 100000 in
theorem addL_spec : ∀ (l : List (Seg α)) (x : Seg α) {lo : Int} {pv : Option α}, CE lo pv l x.1 → x.1 < x.2.1 → (l = [] → ¬ (x.1 = lo ∧ pv = some x.2.2)) →
    CE lo pv (addL l x) x.2.1 ∧ ∀ t, lk (addL l x) t = if x.1 ≤ t ∧ t < x.2.1 then some x.2.2 else lk l t
  | [], x, lo, pv, h, hx, hn => ⟨⟨h, hx, hn rfl, Int.le_refl _⟩, fun t => rfl⟩
  | [y], x, lo, pv, h, hx, _ => by
    obtain ⟨h1, h2, h3, h4⟩ := h
    unfold addL
    split
    · rename_i hc
      refine ⟨⟨h1, by simp only; omega, h3, Int.le_refl _⟩, fun t => ?_⟩
      simp only [lk]
      rw [← hc.2]
      have := hc.1
      by_cases a : x.1 ≤ t ∧ t < x.2.1
      · rw [if_pos (by omega), if_pos a]
      · rw [if_neg a]
        by_cases b : y.1 ≤ t ∧ t < y.2.1
        · rw [if_pos (by omega), if_pos b]
        · rw [if_neg (by omega), if_neg b]
    · rename_i hc
      have h4' : y.2.1 ≤ x.1 := h4
      refine ⟨⟨h1, h2, h3, h4', hx, fun hh => hc ⟨hh.1.symm, by injection hh.2⟩, Int.le_refl _⟩, fun t => ?_⟩
      simp only [lk]
      by_cases a : x.1 ≤ t ∧ t < x.2.1
      · rw [if_neg (by omega), if_pos a, if_pos a]
      · rw [if_neg a, if_neg a]
  | y :: z :: r, x, lo, pv, h, hx, _ => by
    obtain ⟨h1, h2, h3, h4⟩ := h
    obtain ⟨g1, g2⟩ := addL_spec (z :: r) x h4 hx (by simp)
    refine ⟨⟨h1, h2, h3, g1⟩, fun t => ?_⟩
    have hle := h4.le
    show lk (y :: addL (z :: r) x) t = if _ then _ else lk (y :: z :: r) t
    rw [lk, g2 t]
    by_cases a : x.1 ≤ t ∧ t < x.2.1
    · rw [if_neg (by omega), if_pos a, if_pos a]
    · rw [if_neg a, if_neg a]; rfl

def joinStep (nn : α → Bool) (out : List (Seg α)) (x : Seg α) : List (Seg α) := if nn x.2.2 then out else addL out x
def joins (nn : α → Bool) (out : List (Seg α)) (S : List (Seg α)) : List (Seg α) := S.foldl (joinStep nn) out

set_option maxRecDepth 100000 in
theorem joinStep_length (nn : α → Bool) (out : List (Seg α)) (x : Seg α) : out.length ≤ (joinStep nn out x).length := by
  unfold joinStep
  split
  · exact Nat.le_refl _
  · exact (addL_length out x).1
set_option maxRecDepth 100000 in
theorem joins_length (nn : α → Bool) : ∀ (S out : List (Seg α)), out.length ≤ (joins nn out S).length
  | [], _ => Nat.le_refl _
  | x :: S, out => Nat.le_trans (joinStep_length nn out x) (joins_length nn S _)

set_option maxRecDepth 100000 in
theorem joins_spec (nn : α → Bool) : ∀ (S out : List (Seg α)) {lo E : Int}, CE lo none out E → Up E S →
    (∃ E', CE lo none (joins nn out S) E') ∧ ∀ t, lk (joins nn out S) t = match lk S t with | some v => (if nn v then lk out t else some v) | none => lk out t
  | [], out, lo, E, h, _ => ⟨⟨E, h⟩, fun t => rfl⟩
  | x :: S, out, lo, E, h, hU => by
    obtain ⟨u1, u2, u3⟩ := hU
    have hstep : (∃ E1, CE lo none (joinStep nn out x) E1 ∧ E1 ≤ x.2.1) ∧ ∀ t, lk (joinStep nn out x) t = if (x.1 ≤ t ∧ t < x.2.1) ∧ nn x.2.2 = false then some x.2.2 else lk out t := by
      unfold joinStep
      by_cases hn : nn x.2.2 = true
      · rw [if_pos hn]
        exact ⟨⟨E, h, by omega⟩, fun t => by simp [hn]⟩
      · rw [if_neg hn]
        obtain ⟨a1, a2⟩ := addL_spec out x (h.mono u1) u2 (by simp)
        refine ⟨⟨_, a1, Int.le_refl _⟩, fun t => ?_⟩
        rw [a2 t]
        simp [Bool.eq_false_iff.2 hn]
    obtain ⟨⟨E1, c1, c2⟩, c3⟩ := hstep
    obtain ⟨d1, d2⟩ := joins_spec nn S (joinStep nn out x) c1 (u3.from_ c2)
    refine ⟨d1, fun t => ?_⟩
    show lk (joins nn (joinStep nn out x) S) t = _
    rw [d2 t, c3 t]
    rw [lk]
    by_cases hi : x.1 ≤ t ∧ t < x.2.1
    · rw [if_pos hi, lk_before u3 (by omega)]
      cases hn : nn x.2.2 <;> simp [hi, hn]
    · rw [if_neg hi]
      cases lk S t with
      | none => simp [hi]
      | some v => simp [hi]

set_option maxRecDepth 100000 in
/-- What is joined is canonical, and has what the segments have. -/
theorem joins_nil (nn : α → Bool) (S : List (Seg α)) {lo : Int} (h : Up lo S) :
    (∃ E, CE lo none (joins nn [] S) E) ∧ ∀ t, lk (joins nn [] S) t = (lk S t).bind fun v => if nn v then none else some v := by
  obtain ⟨a, b⟩ := joins_spec nn S [] (show CE lo none [] lo from Int.le_refl _) h
  refine ⟨a, fun t => ?_⟩
  rw [b t]
  cases lk S t <;> rfl

end

/-! Times that rise, and segments between them. -/

def Inc : List Int → Prop
  | [] => True
  | [_] => True
  | a :: b :: r => a < b ∧ Inc (b :: r)

set_option maxRecDepth 100000 in
theorem Inc.tail {a : Int} {r : List Int} (h : Inc (a :: r)) : Inc r := by
  cases r with
  | nil => trivial
  | cons b r => exact h.2
set_option maxRecDepth 100000 in
theorem Inc.lt : ∀ {a : Int} {r : List Int}, Inc (a :: r) → ∀ b ∈ r, a < b
  | _, [], _, _, hb => by cases hb
  | a, c :: r, h, b, hb => by
    rcases List.mem_cons.1 hb with rfl | hb
    · exact h.1
    · have := h.2.lt b hb
      have := h.1
      omega

def segs (g : Int → Int → α) : List Int → List (Seg α)
  | a :: b :: r => (a, b, g a b) :: segs g (b :: r)
  | _ => []

set_option maxRecDepth 100000 in
theorem segs_up (g : Int → Int → α) : ∀ {a : Int} {r : List Int}, Inc (a :: r) → Up a (segs g (a :: r))
  | _, [], _ => trivial
  | _, _ :: _, h => ⟨Int.le_refl _, h.1, segs_up g h.2⟩

set_option maxRecDepth 100000 in
theorem segs_lk (g : Int → Int → α) (G : Int → α) : ∀ {b : List Int}, Inc b → (∀ a c t, a ∈ b → c ∈ b → (∀ x ∈ b, ¬ (a < x ∧ x < c)) → a < c → a ≤ t → t < c → g a c = G t) →
    ∀ t, lk (segs g b) t = if (∃ a ∈ b, a ≤ t) ∧ (∃ c ∈ b, t < c) then some (G t) else none
  | [], _, _, t => by rw [if_neg (by simp)]; rfl
  | [a], _, _, t => by rw [if_neg (by rintro ⟨⟨x, hx, h1⟩, ⟨y, hy, h2⟩⟩; simp at hx hy; omega)]; rfl
  | a :: b :: r, hI, hg, t => by
    show lk ((a, b, g a b) :: segs g (b :: r)) t = _
    have hlt := hI.lt
    have ih := segs_lk g G hI.2 (fun x y s hx hy hn h1 h2 h3 => hg x y s (List.mem_cons_of_mem _ hx) (List.mem_cons_of_mem _ hy) (fun z hz => by
      rcases List.mem_cons.1 hz with rfl | hz
      · have := hlt x hx; omega
      · exact hn z hz) h1 h2 h3) t
    rw [lk]
    by_cases hi : a ≤ t ∧ t < b
    · rw [if_pos hi, if_pos ⟨⟨a, List.mem_cons_self, hi.1⟩, ⟨b, by simp, hi.2⟩⟩]
      simp only
      rw [hg a b t List.mem_cons_self (by simp) (fun x hx => ?_) hI.1 hi.1 hi.2]
      rcases List.mem_cons.1 hx with rfl | hx
      · omega
      · rcases List.mem_cons.1 hx with rfl | hx
        · omega
        · have := hI.2.lt x hx; omega
    · rw [if_neg hi, ih]
      by_cases h1 : t < a
      · rw [if_neg, if_neg]
        · rintro ⟨⟨x, hx, hxt⟩, _⟩
          rcases List.mem_cons.1 hx with rfl | hx
          · omega
          · have := hlt x hx; omega
        · rintro ⟨⟨x, hx, hxt⟩, _⟩
          have := hlt x hx; omega
      · have hbt : b ≤ t := by omega
        have hab := hI.1
        congr 1
        apply propext
        constructor
        · rintro ⟨_, ⟨c, hc, hct⟩⟩
          exact ⟨⟨a, List.mem_cons_self, by omega⟩, ⟨c, List.mem_cons_of_mem _ hc, hct⟩⟩
        · rintro ⟨_, ⟨c, hc, hct⟩⟩
          rcases List.mem_cons.1 hc with rfl | hc
          · omega
          · exact ⟨⟨b, List.mem_cons_self, hbt⟩, ⟨c, hc, hct⟩⟩

/-- Times with one more. -/
def insL : List Int → Int → List Int
  | [], n => [n]
  | a :: r, n => if n ≤ a then n :: (a :: r).filter (fun x => decide (x ≠ n)) else a :: insL r n

set_option maxRecDepth 100000 in
theorem insL_mem : ∀ (l : List Int) (n x : Int), x ∈ insL l n ↔ x = n ∨ x ∈ l
  | [], n, x => by simp [insL]
  | a :: r, n, x => by
    unfold insL
    split
    · simp only [List.mem_cons, List.mem_filter, decide_eq_true_eq]
      constructor
      · rintro (h | ⟨h, _⟩)
        · exact .inl h
        · exact .inr h
      · rintro (h | h)
        · exact .inl h
        · by_cases e : x = n
          · exact .inl e
          · exact .inr ⟨h, e⟩
    · rw [List.mem_cons, insL_mem r n x, List.mem_cons]
      constructor
      · rintro (h | h | h)
        · exact .inr (.inl h)
        · exact .inl h
        · exact .inr (.inr h)
      · rintro (h | h | h)
        · exact .inr (.inl h)
        · exact .inl h
        · exact .inr (.inr h)

set_option maxRecDepth 100000 in
theorem inc_cons {a : Int} {r : List Int} (h : Inc r) (hl : ∀ b ∈ r, a < b) : Inc (a :: r) := by
  cases r with
  | nil => trivial
  | cons b r => exact ⟨hl b List.mem_cons_self, h⟩
set_option maxRecDepth 100000 in
theorem inc_filter (p : Int → Bool) : ∀ {l : List Int}, Inc l → Inc (l.filter p)
  | [], _ => by simp [Inc]
  | a :: r, h => by
    have ih := inc_filter p h.tail
    rw [List.filter_cons]
    split
    · exact inc_cons ih fun b hb => h.lt b (List.mem_filter.1 hb).1
    · exact ih
set_option maxRecDepth 100000 in
theorem insL_inc : ∀ {l : List Int} (n : Int), Inc l → Inc (insL l n)
  | [], n, _ => trivial
  | a :: r, n, h => by
    unfold insL
    split
    · rename_i hle
      refine inc_cons (inc_filter _ h) fun b hb => ?_
      obtain ⟨hb, hne⟩ := List.mem_filter.1 hb
      have hne : b ≠ n := by simpa using hne
      rcases List.mem_cons.1 hb with rfl | hb
      · omega
      · have := h.lt b hb; omega
    · rename_i hle
      refine inc_cons (insL_inc n h.tail) fun b hb => ?_
      rcases (insL_mem r n b).1 hb with rfl | hb
      · omega
      · exact h.lt b hb

def boundsL {β : Type} (more : List Int) (l : List (Seg β)) : List Int := l.foldl (fun out x => insL (insL out x.1) x.2.1) more
set_option maxRecDepth 100000 in
theorem boundsL_inc {β : Type} : ∀ (l : List (Seg β)) {more : List Int}, Inc more → Inc (boundsL more l)
  | [], _, h => h
  | _ :: r, _, h => boundsL_inc r (insL_inc _ (insL_inc _ h))
set_option maxRecDepth 100000 in
theorem boundsL_mem {β : Type} : ∀ (l : List (Seg β)) (more : List Int) (t : Int), t ∈ boundsL more l ↔ t ∈ more ∨ ∃ x ∈ l, t = x.1 ∨ t = x.2.1
  | [], more, t => by simp [boundsL]
  | x :: r, more, t => by
    show t ∈ boundsL (insL (insL more x.1) x.2.1) r ↔ _
    rw [boundsL_mem r, insL_mem, insL_mem]
    constructor
    · rintro ((h | h | h) | ⟨y, hy, h⟩)
      · exact .inr ⟨x, List.mem_cons_self, .inr h⟩
      · exact .inr ⟨x, List.mem_cons_self, .inl h⟩
      · exact .inl h
      · exact .inr ⟨y, List.mem_cons_of_mem _ hy, h⟩
    · rintro (h | ⟨y, hy, h⟩)
      · exact .inl (.inr (.inr h))
      · rcases List.mem_cons.1 hy with rfl | hy
        · rcases h with h | h
          · exact .inl (.inr (.inl h))
          · exact .inl (.inl h)
        · exact .inr ⟨y, hy, h⟩

set_option maxRecDepth 100000 in
/-- Between two neighbours of times that hold all bounds, what is had stays. -/
theorem lk_const : ∀ {l : List (Seg α)} {b : List Int} {a c t : Int}, (∀ x ∈ l, x.1 ∈ b ∧ x.2.1 ∈ b) → (∀ x ∈ b, ¬ (a < x ∧ x < c)) → a ≤ t → t < c → lk l a = lk l t
  | [], _, _, _, _, _, _, _, _ => rfl
  | x :: r, b, a, c, t, hb, hn, h1, h2 => by
    have hx := hb x List.mem_cons_self
    have n1 := hn _ hx.1
    have n2 := hn _ hx.2
    have ih := lk_const (l := r) (fun y hy => hb y (List.mem_cons_of_mem _ hy)) hn h1 h2
    rw [lk, lk, ih]
    by_cases hi : x.1 ≤ a ∧ a < x.2.1
    · rw [if_pos hi, if_pos (by omega)]
    · rw [if_neg hi, if_neg (by omega)]

set_option maxRecDepth 100000 in
theorem lk_bound : ∀ {l : List (Seg α)} {t : Int} {v : α}, lk l t = some v → ∃ x ∈ l, x.1 ≤ t ∧ t < x.2.1 ∧ x.2.2 = v
  | [], _, _, h => by cases h
  | x :: r, t, v, h => by
    rw [lk] at h
    split at h
    · rename_i hi
      exact ⟨x, List.mem_cons_self, hi.1, hi.2, by injection h⟩
    · obtain ⟨y, hy, h'⟩ := lk_bound h
      exact ⟨y, List.mem_cons_of_mem _ hy, h'⟩
end
end Go.Proofs.YtjanddnlhaionaaGreatDoor.L2
namespace Go.Proofs.YtjanddnlhaionaaGreatDoor.L2
open Go.RowKit

abbrev Vl := Int × Int × ByteArray
abbrev Row := Seg Vl
abbrev Pc := Seg (Vl × Vl)
instance decVl : DecidableEq Vl := inferInstance
instance decVl2 : DecidableEq (Vl × Vl) := fun a b => decidable_of_iff (a.1 = b.1 ∧ a.2 = b.2) ⟨fun h => Prod.ext h.1 h.2, fun h => h ▸ ⟨rfl, rfl⟩⟩
instance decPc : DecidableEq Pc := inferInstance
def vz : Vl := (0, 0, ByteArray.empty)

def maxT : Int := 1099511627776
def isTimeB (t : Int) : Bool := decide (0 ≤ t) && decide (t ≤ 1099511627776)
def isSpanB (f t : Int) : Bool := decide (0 ≤ f) && (decide (f < t) && decide (t ≤ 1099511627776))

set_option maxRecDepth 100000 in
theorem isSpanB_iff {f t : Int} : isSpanB f t = true ↔ 0 ≤ f ∧ f < t ∧ t ≤ 1099511627776 := by simp [isSpanB]
set_option maxRecDepth 100000 in
theorem isTimeB_iff {t : Int} : isTimeB t = true ↔ 0 ≤ t ∧ t ≤ 1099511627776 := by simp [isTimeB]

set_option maxRecDepth 100000 in
set_option maxHeartbeats 400000 in
theorem isTime35 (t : Int) (w : World) : Calls Tryz.prog 149 #[.int .i64 t] w fun e w' => e = .returned (.bool (isTimeB t)) ∧ w = w' := by
  cases h0 : decide (0 ≤ t) with
  | false =>
    have hA : Hid (isTimeB t = false) := by simp [Hid, isTimeB, h0]
    rw [hA.out]
    go_enter Tryz.func149, Tryz.ntmps149
    go_wp2
    go_ret
    exact ⟨rfl, rfl⟩
  | true =>
    have hA : Hid (isTimeB t = decide (t ≤ 1099511627776)) := by simp [Hid, isTimeB, h0]
    rw [hA.out]
    go_enter Tryz.func149, Tryz.ntmps149
    go_wp2
    go_ret
    exact ⟨rfl, rfl⟩

set_option maxRecDepth 100000 in
set_option maxHeartbeats 400000 in
theorem isSpan38 (f t : Int) (w : World) : Calls Tryz.prog 106 #[.int .i64 f, .int .i64 t] w fun e w' => e = .returned (.bool (isSpanB f t)) ∧ w = w' := by
  have HF := Lib.hid (isTime35 f)
  have HT := Lib.hid (isTime35 t)
  have hA : Hid (isSpanB f t = (isTimeB f && (isTimeB t && decide (f < t)))) := by
    unfold Hid
    rw [Bool.eq_iff_iff, isSpanB_iff]
    simp only [Bool.and_eq_true, isTimeB_iff, decide_eq_true_eq]
    omega
  rw [hA.out]
  clear hA
  cases h0 : isTimeB f with
  | false =>
    rw [h0] at HF
    rw [show (false && (isTimeB t && decide (f < t))) = false from rfl]
    clear h0
    go_enter Tryz.func106, Tryz.ntmps106
    go_wp2_with fail
    refine (HF.out _).mono ?_
    rintro e w' ⟨rfl, rfl⟩
    go_wp2
    go_ret
    exact ⟨rfl, rfl⟩
  | true =>
    rw [h0] at HF
    clear h0
    cases h1 : isTimeB t with
    | false =>
      rw [h1] at HT
      rw [show (true && (false && decide (f < t))) = false from rfl]
      clear h1
      go_enter Tryz.func106, Tryz.ntmps106
      go_wp2_with fail
      refine (HF.out _).mono ?_
      rintro e w' ⟨rfl, rfl⟩
      go_wp2_with fail
      refine (HT.out _).mono ?_
      rintro e w' ⟨rfl, rfl⟩
      go_wp2
      go_ret
      exact ⟨rfl, rfl⟩
    | true =>
      rw [h1] at HT
      rw [show (true && (true && decide (f < t))) = decide (f < t) from rfl]
      clear h1
      go_enter Tryz.func106, Tryz.ntmps106
      go_wp2_with fail
      refine (HF.out _).mono ?_
      rintro e w' ⟨rfl, rfl⟩
      go_wp2_with fail
      refine (HT.out _).mono ?_
      rintro e w' ⟨rfl, rfl⟩
      go_wp2
      go_ret
      exact ⟨rfl, rfl⟩

def edge (t f e : Int) : Int := if t < f then f else e
/-- What a row is in memory. -/
def rowV (r : Row) : Value := .agg #[.int .i64 r.1, .int .i64 r.2.1, .int .i64 r.2.2.1, .int .i64 r.2.2.2.1, .string r.2.2.2.2]

def contB (a b : Row) : Bool := decide (a.2.1 = b.1) && decide (a.2.2 = b.2.2)

set_option maxRecDepth 100000 in
set_option maxHeartbeats 400000 in
theorem continues39 (a b : Row) (w : World) : Calls Tryz.prog 108 #[rowV a, rowV b] w fun e w' => e = .returned (.bool (contB a b)) ∧ Below w.heap.size w w' := by
  obtain ⟨af, ae, ak, an, sa⟩ := a
  obtain ⟨bf, be, bk, bn, sb⟩ := b
  unfold rowV
  simp only
  have hend : Below w.heap.size w ((w.alloc (.cells #[.int .i64 af, .int .i64 ae, .int .i64 ak, .int .i64 an, .string sa] 93)).alloc (.cells #[.int .i64 bf, .int .i64 be, .int .i64 bk, .int .i64 bn, .string sb] 93)) :=
    ((Below.refl _ w).alloc (Nat.le_refl _) _).alloc (by simp) _
  cases h0 : (ae == bf) with
  | false =>
    have hA : Hid (contB (af, ae, ak, an, sa) (bf, be, bk, bn, sb) = false) := by unfold Hid; simp at h0; simp [contB, h0]
    rw [hA.out]
    go_enter Tryz.func108, Tryz.ntmps108
    go_wp2
    go_ret
    exact ⟨rfl, hend⟩
  | true =>
    have hA : Hid (contB (af, ae, ak, an, sa) (bf, be, bk, bn, sb) = decide (ak = bk ∧ an = bn ∧ sa = sb)) := by unfold Hid; simp at h0; simp [contB, h0]
    rw [hA.out]
    obtain ⟨t, ht⟩ : ∃ t, decide (ak = bk ∧ an = bn ∧ sa = sb) = t := ⟨_, rfl⟩
    rw [ht]
    have heq := fun W => eql24 ak an sa bk bn sb t ht W
    clear ht hA
    go_enter Tryz.func108, Tryz.ntmps108
    go_wp2
    go_ret
    exact ⟨rfl, hend⟩

/-! ### Rows in memory -/

structure RowAt (w : World) (b o : Nat) (r : Row) : Prop where
  c0 : w.cell? ⟨b, o, none⟩ = some (.int .i64 r.1)
  c1 : w.cell? ⟨b, o + 1, none⟩ = some (.int .i64 r.2.1)
  c2 : w.cell? ⟨b, o + 2, none⟩ = some (.int .i64 r.2.2.1)
  c3 : w.cell? ⟨b, o + 3, none⟩ = some (.int .i64 r.2.2.2.1)
  c4 : w.cell? ⟨b, o + 4, none⟩ = some (.string r.2.2.2.2)

set_option maxRecDepth 100000 in
theorem RowAt.keep {w w' : World} {b o : Nat} {r : Row} (h : RowAt w b o r) (hk : ∀ o, w'.cell? ⟨b, o, none⟩ = w.cell? ⟨b, o, none⟩) : RowAt w' b o r :=
  ⟨(hk _).trans h.c0, (hk _).trans h.c1, (hk _).trans h.c2, (hk _).trans h.c3, (hk _).trans h.c4⟩
set_option maxRecDepth 100000 in
theorem RowAt.below {w w' : World} {b o B : Nat} {r : Row} (h : RowAt w b o r) (hb : Below B w w') (hl : b < B) : RowAt w' b o r :=
  h.keep fun o => hb.cell (p := ⟨b, o, none⟩) hl

/-- The slice v reads as the rows l, below block B. -/
def RowsAt (w : World) (B : Nat) (v : Value) (l : List Row) : Prop :=
  ∃ A cap, v = .slice A l.length cap ∧ l.length ≤ cap ∧ cap ≤ maxLen ∧ (0 < l.length → ∃ b o, A = some ⟨b, o, none⟩ ∧ b < B ∧ ∀ i (h : i < l.length), RowAt w b (o + i * 5) l[i])

set_option maxRecDepth 100000 in
theorem RowsAt.keep {w w' : World} {B : Nat} {v : Value} {l : List Row} (h : RowsAt w B v l) (hk : ∀ b o, b < B → w'.cell? ⟨b, o, none⟩ = w.cell? ⟨b, o, none⟩) : RowsAt w' B v l := by
  obtain ⟨A, cap, rfl, h1, h2, h3⟩ := h
  refine ⟨A, cap, rfl, h1, h2, fun hl => ?_⟩
  obtain ⟨b, o, rfl, hb, hr⟩ := h3 hl
  exact ⟨b, o, rfl, hb, fun i hi => (hr i hi).keep fun o => hk b o hb⟩
set_option maxRecDepth 100000 in
theorem RowsAt.below {w w' : World} {B : Nat} {v : Value} {l : List Row} (h : RowsAt w B v l) (hb : Below B w w') : RowsAt w' B v l :=
  h.keep fun b o hl => hb.cell (p := ⟨b, o, none⟩) hl
set_option maxRecDepth 100000 in
theorem RowsAt.more {w : World} {B B' : Nat} {v : Value} {l : List Row} (h : RowsAt w B v l) (hB : B ≤ B') : RowsAt w B' v l := by
  obtain ⟨A, cap, rfl, h1, h2, h3⟩ := h
  refine ⟨A, cap, rfl, h1, h2, fun hl => ?_⟩
  obtain ⟨b, o, rfl, hb, hr⟩ := h3 hl
  exact ⟨b, o, rfl, by omega, hr⟩
set_option maxRecDepth 100000 in
theorem RowsAt.step {w w' : World} {v : Value} {l : List Row} (h : RowsAt w w.heap.size v l) (hb : Below w.heap.size w w') : RowsAt w' w'.heap.size v l :=
  (h.below hb).more hb.size

def lkD (l : List Row) (t : Int) : Vl := (lk l t).getD vz
def valV (v : Vl) : Value := .agg #[.int .i64 v.1, .int .i64 v.2.1, .string v.2.2]

set_option maxRecDepth 100000 in
theorem drop_get {α : Type} (l : List α) (k : Nat) (h : k < l.length) : l.drop k = l[k] :: l.drop (k + 1) := List.drop_eq_getElem_cons h

/-! ### Pieces in memory -/
def pcV (p : Pc) : Value := .agg #[.int .i64 p.1, .int .i64 p.2.1, .int .i64 p.2.2.1.1, .int .i64 p.2.2.1.2.1, .string p.2.2.1.2.2, .int .i64 p.2.2.2.1, .int .i64 p.2.2.2.2.1, .string p.2.2.2.2.2]
structure PcAt (w : World) (b o : Nat) (p : Pc) : Prop where
  c0 : w.cell? ⟨b, o, none⟩ = some (.int .i64 p.1)
  c1 : w.cell? ⟨b, o + 1, none⟩ = some (.int .i64 p.2.1)
  c2 : w.cell? ⟨b, o + 2, none⟩ = some (.int .i64 p.2.2.1.1)
  c3 : w.cell? ⟨b, o + 3, none⟩ = some (.int .i64 p.2.2.1.2.1)
  c4 : w.cell? ⟨b, o + 4, none⟩ = some (.string p.2.2.1.2.2)
  c5 : w.cell? ⟨b, o + 5, none⟩ = some (.int .i64 p.2.2.2.1)
  c6 : w.cell? ⟨b, o + 6, none⟩ = some (.int .i64 p.2.2.2.2.1)
  c7 : w.cell? ⟨b, o + 7, none⟩ = some (.string p.2.2.2.2.2)

set_option maxRecDepth 100000 in
theorem PcAt.keep {w w' : World} {b o : Nat} {r : Pc} (h : PcAt w b o r) (hk : ∀ o, w'.cell? ⟨b, o, none⟩ = w.cell? ⟨b, o, none⟩) : PcAt w' b o r :=
  ⟨(hk _).trans h.c0, (hk _).trans h.c1, (hk _).trans h.c2, (hk _).trans h.c3, (hk _).trans h.c4, (hk _).trans h.c5, (hk _).trans h.c6, (hk _).trans h.c7⟩

/-- The slice v reads as the pieces l, below block B. -/
def PcsAt (w : World) (B : Nat) (v : Value) (l : List Pc) : Prop :=
  ∃ A cap, v = .slice A l.length cap ∧ l.length ≤ cap ∧ cap ≤ maxLen ∧ (0 < l.length → ∃ b o, A = some ⟨b, o, none⟩ ∧ b < B ∧ ∀ i (h : i < l.length), PcAt w b (o + i * 8) l[i])

set_option maxRecDepth 100000 in
theorem PcsAt.keep {w w' : World} {B : Nat} {v : Value} {l : List Pc} (h : PcsAt w B v l) (hk : ∀ b o, b < B → w'.cell? ⟨b, o, none⟩ = w.cell? ⟨b, o, none⟩) : PcsAt w' B v l := by
  obtain ⟨A, cap, rfl, h1, h2, h3⟩ := h
  refine ⟨A, cap, rfl, h1, h2, fun hl => ?_⟩
  obtain ⟨b, o, rfl, hb, hr⟩ := h3 hl
  exact ⟨b, o, rfl, hb, fun i hi => (hr i hi).keep fun o => hk b o hb⟩
set_option maxRecDepth 100000 in
theorem PcsAt.below {w w' : World} {B : Nat} {v : Value} {l : List Pc} (h : PcsAt w B v l) (hb : Below B w w') : PcsAt w' B v l :=
  h.keep fun b o hl => hb.cell (p := ⟨b, o, none⟩) hl
set_option maxRecDepth 100000 in
theorem PcsAt.more {w : World} {B B' : Nat} {v : Value} {l : List Pc} (h : PcsAt w B v l) (hB : B ≤ B') : PcsAt w B' v l := by
  obtain ⟨A, cap, rfl, h1, h2, h3⟩ := h
  refine ⟨A, cap, rfl, h1, h2, fun hl => ?_⟩
  obtain ⟨b, o, rfl, hb, hr⟩ := h3 hl
  exact ⟨b, o, rfl, by omega, hr⟩
set_option maxRecDepth 100000 in
theorem PcsAt.step {w w' : World} {v : Value} {l : List Pc} (h : PcsAt w w.heap.size v l) (hb : Below w.heap.size w w') : PcsAt w' w'.heap.size v l :=
  (h.below hb).more hb.size
end Go.Proofs.YtjanddnlhaionaaGreatDoor.L2
namespace Go.Proofs.YtjanddnlhaionaaGreatDoor.L2
open Go.RowKit

def fewB (l : List Row) : Bool := decide (l.length ≤ 80) && l.all fun r => decide (r.2.2.2.2.size ≤ 200)

set_option maxRecDepth 100000 in
theorem neqRow (a b : Row) (t : Bool) (h : decide (a ≠ b) = t) (w : World) : (binOp .neq 93 (rowV a) (rowV b)).run Tryz.prog w = .ok (.bool t) w := by
  subst h
  obtain ⟨af, ae, ak, an, sa⟩ := a
  obtain ⟨bf, be, bk, bn, sb⟩ := b
  unfold rowV
  by_cases h1 : af = bf
  · by_cases h2 : ae = be
    · by_cases h3 : ak = bk
      · by_cases h4 : an = bn
        · by_cases h5 : sa.toList = sb.toList
          · have := bytes_ext h5
            simp [go_sem, h1, h2, h3, h4, this]
          · have h6 : ¬ sa = sb := fun e => h5 (by rw [e])
            simp [go_sem, h1, h2, h3, h4, h5, h6]
        · simp [go_sem, h1, h2, h3, h4]
      · simp [go_sem, h1, h2, h3]
    · simp [go_sem, h1, h2]
  · simp [go_sem, h1]

set_option maxRecDepth 100000 in
theorem neqVl (a b : Vl) (t : Bool) (h : decide (a ≠ b) = t) (w : World) : (binOp .neq 91 (valV a) (valV b)).run Tryz.prog w = .ok (.bool t) w := by
  subst h
  obtain ⟨ak, an, sa⟩ := a
  obtain ⟨bk, bn, sb⟩ := b
  unfold valV
  by_cases h3 : ak = bk
  · by_cases h4 : an = bn
    · by_cases h5 : sa.toList = sb.toList
      · have := bytes_ext h5
        simp [go_sem, h3, h4, this]
      · have h6 : ¬ sa = sb := fun e => h5 (by rw [e])
        simp [go_sem, h3, h4, h5, h6]
    · simp [go_sem, h3, h4]
  · simp [go_sem, h3]

set_option maxRecDepth 100000 in
theorem eqlVl (a b : Vl) (t : Bool) (h : decide (a = b) = t) (w : World) : (binOp .eql 91 (valV a) (valV b)).run Tryz.prog w = .ok (.bool t) w := by
  obtain ⟨ak, an, sa⟩ := a
  obtain ⟨bk, bn, sb⟩ := b
  exact eql24 ak an sa bk bn sb t (by rw [← h]; simp) w

set_option maxRecDepth 100000 in
theorem below_drewN {B : Nat} {a w : World} (h : Below B a w) (n : Nat) : Below B a (w.drewN n) := ⟨h.os, h.tape, h.output, h.size, h.block⟩

set_option maxRecDepth 100000 in
theorem decide_cons {α : Type} [DecidableEq α] (x y : α) (l l' : List α) : decide (x :: l = y :: l') = (decide (x = y) && decide (l = l')) := by
  rw [Bool.eq_iff_iff]; simp

set_option maxRecDepth 100000 in
set_option maxHeartbeats 800000 in
theorem same17 (l l' : List Row) (v v' : Value) (w : World) (h : RowsAt w w.heap.size v l) (h' : RowsAt w w.heap.size v' l') :
    Calls Tryz.prog 25 #[v, v'] w fun e w' => e = .returned (.bool (decide (l = l'))) ∧ Below w.heap.size w w' := by
  obtain ⟨A, cap, rfl, h1, h2, h3⟩ := h
  obtain ⟨A', cap', rfl, h1', h2', h3'⟩ := h'
  unfold maxLen at h2 h2'
  cases hlen : ((l.length : Int) == (l'.length : Int)) with
  | false =>
    have hA : Hid (decide (l = l') = false) := by
      unfold Hid
      rw [decide_eq_false_iff_not]
      rintro rfl
      simp at hlen
    rw [hA.out]
    have hne : ((l.length : Int) != (l'.length : Int)) = true := by rw [bne, hlen]; rfl
    go_enter Tryz.func25, Tryz.ntmps25
    go_wp2
    go_ret
    exact ⟨rfl, Below.refl _ _⟩
  | true =>
    have hle : l.length = l'.length := Int.ofNat.inj (by simpa using hlen)
    have hne : ((l.length : Int) != (l'.length : Int)) = false := by rw [bne, hlen]; rfl
    obtain ⟨q, hq⟩ : ∃ q, decide (l = l') = q := ⟨_, rfl⟩
    rw [hq]
    have HQ := Lib.hid hq
    have HL := Lib.hid hle
    clear hq hle hlen
    go_enter Tryz.func25, Tryz.ntmps25
    go_wp2
    go_loopw [5] (fun i wr => ∃ k d : Nat, k ≤ l.length ∧ i = .int .i64 k ∧ wr = w.drewN d ∧ Hid (decide (l.drop k = l'.drop k) = q)) (fun i _ => l.length - (intOf i).toNat)
    case atStart => exact ⟨0, 0, Nat.zero_le _, rfl, rfl, HQ⟩
    case round =>
      obtain ⟨k, d, hk, rfl, rfl, HK⟩ := hrel
      by_cases hlt : k < l.length
      · have hlt' : k < l'.length := by have := HL.out; omega
        obtain ⟨b, o, rfl, hb, hr⟩ := h3 (by omega)
        obtain ⟨b', o', rfl, hb', hr'⟩ := h3' (by omega)
        have hd := drop_get l k hlt
        have hd' := drop_get l' k hlt'
        have hr := hr k hlt
        have hr' := hr' k hlt'
        generalize l[k] = r at hd hr
        generalize l'[k] = r' at hd' hr'
        have hdc := decide_cons r r' (l.drop (k + 1)) (l'.drop (k + 1))
        rw [← hd, ← hd', HK.out] at hdc
        obtain ⟨q0, hq0⟩ : ∃ q0, decide (r ≠ r') = q0 := ⟨_, rfl⟩
        have hneq := neqRow r r' q0 hq0
        obtain ⟨f, e, kk, n, s⟩ := r
        obtain ⟨f', e', kk', n', s'⟩ := r'
        obtain ⟨c0, c1, c2, c3, c4⟩ := hr
        obtain ⟨c0', c1', c2', c3', c4'⟩ := hr'
        unfold rowV at hneq
        simp only at c0 c1 c2 c3 c4 c0' c1' c2' c3' c4' hneq
        clear hd hd' h3 h3'
        cases q0 with
        | true =>
          have hq : q = false := by
            rw [hdc]
            rw [decide_eq_false (of_decide_eq_true hq0)]; rfl
          subst hq
          clear HQ HK hdc hq0
          go_wp2_with fail
          go_quiet (fail)
          go_wp2
          go_ret
          exact ⟨rfl, below_drewN (below_drewN (Below.refl _ _) _) _⟩
        | false =>
          have HN : Hid (decide (l.drop (k + 1) = l'.drop (k + 1)) = q) := by
            unfold Hid
            rw [hdc]
            rw [decide_eq_true (Decidable.not_not.1 (of_decide_eq_false hq0))]; rfl
          clear HQ HK hdc hq0
          go_wp2_with fail
          go_quiet (fail)
          go_wp2
          go_roundw
          case rel => exact ⟨k + 1, _, by omega, by go_num, rfl, HN⟩
          case measure => simp [intOf]; omega
      · have hq : q = true := by
          rw [← HK.out, List.drop_of_length_le (by omega), List.drop_of_length_le (by have := HL.out; omega)]; rfl
        subst hq
        clear HQ HK
        go_wp2
        go_ret
        exact ⟨rfl, below_drewN (Below.refl _ _) _⟩

end Go.Proofs.YtjanddnlhaionaaGreatDoor.L2
namespace Go.Proofs.YtjanddnlhaionaaGreatDoor.L2
open Go.RowKit

def valOK (v : Vl) : Bool := validV v.1 v.2.1 v.2.2
def rowOK (r : Row) : Bool := isSpanB r.1 r.2.1 && valOK r.2.2
def nextOK (p r : Row) : Bool := !decide (r.1 < p.2.1) && !contB p r
def okFrom : Option Row → List Row → Bool
  | _, [] => true
  | none, r :: l => rowOK r && okFrom (some r) l
  | some p, r :: l => rowOK r && (nextOK p r && okFrom (some r) l)
def rowsOK (l : List Row) : Bool := decide (l.length ≤ 64) && okFrom none l

def prevAt (l : List Row) (k : Nat) : Option Row := if k = 0 then none else l[k - 1]?

set_option maxRecDepth 100000 in
theorem check28 (v : Vl) (w : World) : Calls Tryz.prog 107 #[valV v] w fun e w' => e = .returned (.int .i64 (if valOK v then 0 else 2)) ∧ Below w.heap.size w w' :=
  check14 v.1 v.2.1 v.2.2 w
/-- A row in a block of its own, and what lay. -/
structure Loc (w : World) (r : Row) (w' : World) : Prop where
  r : RowAt w' w.heap.size 0 r
  lt : w.heap.size < w'.heap.size
  below : Below w.heap.size w w'
set_option maxRecDepth 100000 in
theorem Loc.start (w : World) (f e k n : Int) (s : ByteArray) : Loc w (f, e, k, n, s) (w.alloc (.cells #[.int .i64 f, .int .i64 e, .int .i64 k, .int .i64 n, .string s] 93)) :=
  ⟨⟨by simp [go_sem], by simp [go_sem], by simp [go_sem], by simp [go_sem], by simp [go_sem]⟩, by simp, (Below.refl _ _).alloc (Nat.le_refl _) _⟩
set_option maxRecDepth 100000 in
theorem Loc.step {w : World} {r : Row} {w1 w2 : World} (h : Loc w r w1) (hb : Below w1.heap.size w1 w2) : Loc w r w2 :=
  ⟨h.r.below hb h.lt, Nat.lt_of_lt_of_le h.lt hb.size, h.below.trans (hb.mono (Nat.le_of_lt h.lt))⟩

/-- Two rows, one behind the other in the list, one in a block of its own. -/
structure Duo (w : World) (b o : Nat) (p : Row) (c : Nat) (r : Row) (w' : World) : Prop where
  p : RowAt w' b o p
  r : RowAt w' c 0 r
  hb : b < w'.heap.size
  hc : c < w'.heap.size
  below : Below w.heap.size w w'
set_option maxRecDepth 100000 in
theorem Duo.drew {w : World} {b o : Nat} {p : Row} {c : Nat} {r : Row} {w' : World} (h : Duo w b o p c r w') : Duo w b o p c r w'.drew := ⟨h.p.keep fun _ => rfl, h.r.keep fun _ => rfl, h.hb, h.hc, h.below.drew⟩
set_option maxRecDepth 100000 in
theorem Duo.step {w : World} {b o : Nat} {p : Row} {c : Nat} {r : Row} {w1 w2 : World} (h : Duo w b o p c r w1) (hb : Below w1.heap.size w1 w2) : Duo w b o p c r w2 :=
  ⟨h.p.below hb h.hb, h.r.below hb h.hc, Nat.lt_of_lt_of_le h.hb hb.size, Nat.lt_of_lt_of_le h.hc hb.size, h.below.trans (hb.mono h.below.size)⟩
set_option maxRecDepth 100000 in
theorem SD {w : World} {b o : Nat} {pf pe pk pn : Int} {ps : ByteArray} {c : Nat} {f e k n : Int} {s : ByteArray} {w' : World} (h : Duo w b o (pf, pe, pk, pn, ps) c (f, e, k, n, s) w') :
    w'.cell? ⟨b, o, none⟩ = some (.int .i64 pf) ∧ w'.cell? ⟨b, o + 1, none⟩ = some (.int .i64 pe) ∧ w'.cell? ⟨b, o + 2, none⟩ = some (.int .i64 pk) ∧ w'.cell? ⟨b, o + 3, none⟩ = some (.int .i64 pn) ∧ w'.cell? ⟨b, o + 4, none⟩ = some (.string ps) ∧
      w'.cell? ⟨c, 0, none⟩ = some (.int .i64 f) ∧ w'.cell? ⟨c, 1, none⟩ = some (.int .i64 e) ∧ w'.cell? ⟨c, 2, none⟩ = some (.int .i64 k) ∧ w'.cell? ⟨c, 3, none⟩ = some (.int .i64 n) ∧ w'.cell? ⟨c, 4, none⟩ = some (.string s) ∧ Duo w b o (pf, pe, pk, pn, ps) c (f, e, k, n, s) w' :=
  ⟨h.p.c0, h.p.c1, h.p.c2, h.p.c3, h.p.c4, by simpa using h.r.c0, by simpa using h.r.c1, by simpa using h.r.c2, by simpa using h.r.c3, by simpa using h.r.c4, h⟩

set_option maxRecDepth 100000 in
set_option maxHeartbeats 800000 in
theorem check18 (l : List Row) (v : Value) (w : World) (h : RowsAt w w.heap.size v l) :
    Calls Tryz.prog 52 #[v] w fun e w' => e = .returned (.int .i64 (if rowsOK l then 0 else 2)) ∧ Below w.heap.size w w' := by
  obtain ⟨A, cap, rfl, h1, h2, h3⟩ := h
  unfold maxLen at h2
  by_cases h64 : (64 : Int) < l.length
  · have hA : Hid ((if rowsOK l then (0 : Int) else 2) = 2) := by unfold Hid rowsOK; rw [decide_eq_false (by omega)]; rfl
    rw [hA.out]
    go_enter Tryz.func52, Tryz.ntmps52
    go_wp2
    go_ret
    exact ⟨rfl, Below.refl _ _⟩
  · obtain ⟨q, hq⟩ : ∃ q, rowsOK l = q := ⟨_, rfl⟩
    rw [hq]
    have HQ : Hid (okFrom none l = q) := by unfold Hid; rw [← hq]; unfold rowsOK; rw [decide_eq_true (by omega)]; rfl
    clear hq
    obtain ⟨ans, hans⟩ : ∃ ans : Int, (if q then (0 : Int) else 2) = ans := ⟨_, rfl⟩
    rw [hans]
    have HANS := Lib.hid hans
    clear hans
    go_enter Tryz.func52, Tryz.ntmps52
    go_wp2
    go_loopw [10] (fun i wr => ∃ k : Nat, k ≤ l.length ∧ i = .int .i64 k ∧ Below w.heap.size w wr ∧ Hid (okFrom (prevAt l k) (l.drop k) = q)) (fun i _ => l.length - (intOf i).toNat)
    case atStart => exact ⟨0, Nat.zero_le _, rfl, Below.refl _ _, HQ⟩
    case round =>
      obtain ⟨k, hk, rfl, hbw, HK⟩ := hrel
      by_cases hlt : k < l.length
      · obtain ⟨b, o, rfl, hb, hr⟩ := h3 (by omega)
        have hd := drop_get l k hlt
        have hrk := (hr k hlt).below hbw hb
        generalize l[k] = r at hd hrk
        have HR := Lib.hid hr
        obtain ⟨f, e, kk, n, s⟩ := r
        obtain ⟨c0, c1, c2, c3, c4⟩ := hrk
        simp only at c0 c1 c2 c3 c4
        have HD := Lib.hid hd
        have hbl : b < wr.heap.size := Nat.lt_of_lt_of_le hb hbw.size
        clear hd h3 hr
        have HS := Lib.hid (isSpan38 f e)
        have HV := Lib.hid (check28 (kk, n, s))
        have HOK : Hid (rowOK (f, e, kk, n, s) = (isSpanB f e && valOK (kk, n, s))) := rfl
        have HL := Lib.hid (Loc.start wr f e kk n s)
        unfold valV at HV
        simp only at HV
        generalize isSpanB f e = q1 at HS HOK
        generalize valOK (kk, n, s) = q2 at HV HOK
        go_wp2_with fail
        refine (HS.out _).mono ?_
        rintro e' w' ⟨rfl, rfl⟩
        cases q1 with
        | false =>
          have hq : q = false := by
            rw [← HK.out, HD.out]
            cases prevAt l k <;> simp [okFrom, HOK.out]
          subst hq
          have hans : ans = 2 := HANS.out.symm
          subst hans
          clear HQ HK HANS HS HV HOK HD HR
          have HB : Hid (Below w.heap.size w _) := hbw.trans (HL.out.below.mono hbw.size)
          go_wp2
          go_ret
          exact ⟨rfl, HB.out⟩
        | true =>
          go_wp2_with fail
          refine (HV.out _).mono ?_
          rintro e' w' ⟨rfl, hb1⟩
          replace HL : Hid (Loc wr (f, e, kk, n, s) w') := HL.out.step hb1
          clear hb1
          cases q2 with
          | false =>
            have hq : q = false := by
              rw [← HK.out, HD.out]
              cases prevAt l k <;> simp [okFrom, HOK.out]
            subst hq
            have hans : ans = 2 := HANS.out.symm
            subst hans
            clear HQ HK HANS HS HV HOK HD HR
            have HB : Hid (Below w.heap.size w w') := hbw.trans (HL.out.below.mono hbw.size)
            go_wp2
            go_ret
            exact ⟨rfl, HB.out⟩
          | true =>
            clear HS HV
            have hrow : rowOK (f, e, kk, n, s) = true := HOK.out
            have HROW := Lib.hid hrow
            clear HOK hrow
            by_cases hk0 : k = 0
            · subst hk0
              have HN : Hid (okFrom (prevAt l 1) (l.drop 1) = q) := by
                unfold Hid
                have hp : prevAt l 1 = some (f, e, kk, n, s) := by
                  have := HD.out
                  rw [List.drop_zero] at this
                  unfold prevAt
                  rw [this]; rfl
                rw [← HK.out, HD.out, hp]
                show _ = okFrom none _
                rw [okFrom, HROW.out]; rfl
              clear HQ HK HD HROW HR
              have HB : Hid (Below w.heap.size w w') := hbw.trans (HL.out.below.mono hbw.size)
              clear hbw
              go_wp2_with fail
              go_quiet (fail)
              go_wp2
              exact ⟨⟨1, by omega, rfl, below_drewN HB.out _, HN⟩, by simp [intOf]; omega⟩
            · obtain ⟨j, rfl⟩ : ∃ j, k = j + 1 := ⟨k - 1, by omega⟩
              have hp := (HR.out j (by omega)).below (hbw.trans (HL.out.below.mono hbw.size)) hb
              have hpv : prevAt l (j + 1) = some l[j] := by
                unfold prevAt
                rw [if_neg (by omega)]
                exact List.getElem?_eq_getElem (by omega)
              generalize l[j] = p at hp hpv
              obtain ⟨pf, pe, pk, pn, ps⟩ := p
              have HN : Hid ((nextOK (pf, pe, pk, pn, ps) (f, e, kk, n, s) && okFrom (prevAt l (j + 1 + 1)) (l.drop (j + 1 + 1))) = q) := by
                unfold Hid
                have hp : prevAt l (j + 1 + 1) = some (f, e, kk, n, s) := by
                  have := HD.out
                  unfold prevAt
                  rw [if_neg (by omega)]
                  have e0 : l[j + 1 + 1 - 1]? = (l.drop (j + 1))[0]? := by rw [List.getElem?_drop]; rfl
                  rw [e0, this]; rfl
                rw [← HK.out, HD.out, hpv, hp, okFrom, HROW.out]; rfl
              clear HQ HK HD HROW HR hpv
              have HB : Hid (Below w.heap.size w w') := hbw.trans (HL.out.below.mono hbw.size)
              have hlo := HL.out.r
              have hbw' : b < w'.heap.size := Nat.lt_of_lt_of_le hbl HL.out.below.size
              have hwl : wr.heap.size < w'.heap.size := HL.out.lt
              have hD : Duo w b (o + j * 5) (pf, pe, pk, pn, ps) wr.heap.size (f, e, kk, n, s) w' := ⟨hp, hlo, hbw', hwl, HB.out⟩
              have HDU := Lib.hid hD
              clear hD
              obtain ⟨p0, p1, p2, p3, p4⟩ := hp
              obtain ⟨l0, l1, l2, l3, l4⟩ := hlo
              simp only [Nat.zero_add] at p0 p1 p2 p3 p4 l0 l1 l2 l3 l4
              clear hbw c0 c1 c2 c3 c4 HL
              cases hlt' : decide (f < pe) with
              | true =>
                have hq : q = false := by
                  rw [← HN.out, nextOK]
                  simp only
                  rw [hlt']; rfl
                subst hq
                have hans : ans = 2 := HANS.out.symm
                subst hans
                clear HN HANS
                go_wp2_with fail
                go_quiet (fail)
                go_wp2
                go_ret
                exact ⟨rfl, below_drewN HB.out _⟩
              | false =>
                have HC := Lib.hid (continues39 (pf, pe, pk, pn, ps) (f, e, kk, n, s))
                have HN2 : Hid ((!contB (pf, pe, pk, pn, ps) (f, e, kk, n, s) && okFrom (prevAt l (j + 1 + 1)) (l.drop (j + 1 + 1))) = q) := by
                  unfold Hid
                  rw [← HN.out, nextOK]
                  simp only
                  rw [hlt']; rfl
                clear HN
                unfold rowV at HC
                simp only at HC
                generalize contB (pf, pe, pk, pn, ps) (f, e, kk, n, s) = q3 at HC HN2
                cases q3 with
                | true =>
                  have hq : q = false := HN2.out.symm
                  subst hq
                  have hans : ans = 2 := HANS.out.symm
                  subst hans
                  clear HN2 HANS
                  go_wp2_with fail
                  have hD := HDU.out
                  have hi0 : (0 : Int) ≤ (j : Int) := by omega
                  have hi1 : (j : Int) < (l.length : Int) := by omega
                  have hi2 : (j : Int) + 1 - 1 = (j : Int) := by omega
                  have hi3 : IntKind.i64.wrap (j : Int) = (j : Int) := IntWalk.i64_in _ (by omega)
                  clear HDU
                  go_region_held3 (fun w'' => w''.cell? ⟨b, o + j * 5, none⟩ = some (.int .i64 pf) ∧ w''.cell? ⟨b, o + j * 5 + 1, none⟩ = some (.int .i64 pe) ∧ w''.cell? ⟨b, o + j * 5 + 2, none⟩ = some (.int .i64 pk) ∧ w''.cell? ⟨b, o + j * 5 + 3, none⟩ = some (.int .i64 pn) ∧ w''.cell? ⟨b, o + j * 5 + 4, none⟩ = some (.string ps) ∧
                    w''.cell? ⟨wr.heap.size, 0, none⟩ = some (.int .i64 f) ∧ w''.cell? ⟨wr.heap.size, 1, none⟩ = some (.int .i64 e) ∧ w''.cell? ⟨wr.heap.size, 2, none⟩ = some (.int .i64 kk) ∧ w''.cell? ⟨wr.heap.size, 3, none⟩ = some (.int .i64 n) ∧ w''.cell? ⟨wr.heap.size, 4, none⟩ = some (.string s) ∧ Duo w b (o + j * 5) (pf, pe, pk, pn, ps) wr.heap.size (f, e, kk, n, s) w'')
                    ((apply SD; repeat (first | exact hD.drew | refine Duo.step ?_ (by assumption))))
                    (first | (go_at_call 108; refine (HC.out _).mono ?_; rintro e' w3 ⟨rfl, hbb⟩))
                  rename_i hHeld
                  obtain ⟨-, -, -, -, -, -, -, -, -, -, hD'⟩ := hHeld
                  have HB' := Lib.hid hD'.below
                  clear hD hD' p0 p1 p2 p3 p4 l0 l1 l2 l3 l4 HC HB
                  go_wp2
                  go_ret
                  exact ⟨rfl, HB'.out⟩
                | false =>
                  replace HN2 : Hid (okFrom (prevAt l (j + 1 + 1)) (l.drop (j + 1 + 1)) = q) := HN2.out
                  go_wp2_with fail
                  have hD := HDU.out
                  have hi0 : (0 : Int) ≤ (j : Int) := by omega
                  have hi1 : (j : Int) < (l.length : Int) := by omega
                  have hi2 : (j : Int) + 1 - 1 = (j : Int) := by omega
                  have hi3 : IntKind.i64.wrap (j : Int) = (j : Int) := IntWalk.i64_in _ (by omega)
                  clear HDU
                  go_region_held3 (fun w'' => w''.cell? ⟨b, o + j * 5, none⟩ = some (.int .i64 pf) ∧ w''.cell? ⟨b, o + j * 5 + 1, none⟩ = some (.int .i64 pe) ∧ w''.cell? ⟨b, o + j * 5 + 2, none⟩ = some (.int .i64 pk) ∧ w''.cell? ⟨b, o + j * 5 + 3, none⟩ = some (.int .i64 pn) ∧ w''.cell? ⟨b, o + j * 5 + 4, none⟩ = some (.string ps) ∧
                    w''.cell? ⟨wr.heap.size, 0, none⟩ = some (.int .i64 f) ∧ w''.cell? ⟨wr.heap.size, 1, none⟩ = some (.int .i64 e) ∧ w''.cell? ⟨wr.heap.size, 2, none⟩ = some (.int .i64 kk) ∧ w''.cell? ⟨wr.heap.size, 3, none⟩ = some (.int .i64 n) ∧ w''.cell? ⟨wr.heap.size, 4, none⟩ = some (.string s) ∧ Duo w b (o + j * 5) (pf, pe, pk, pn, ps) wr.heap.size (f, e, kk, n, s) w'')
                    ((apply SD; repeat (first | exact hD.drew | refine Duo.step ?_ (by assumption))))
                    (first | (go_at_call 108; refine (HC.out _).mono ?_; rintro e' w3 ⟨rfl, hbb⟩))
                  rename_i hHeld
                  obtain ⟨-, -, -, -, -, -, -, -, -, -, hD'⟩ := hHeld
                  have HB' := Lib.hid hD'.below
                  clear hD hD' p0 p1 p2 p3 p4 l0 l1 l2 l3 l4 HC HB
                  go_wp2
                  go_roundw
                  case rel => exact ⟨j + 1 + 1, by omega, by go_num, HB'.out, HN2⟩
                  case measure => simp [intOf]; omega
      · have hq : q = true := by
          rw [← HK.out, List.drop_of_length_le (by omega)]
          cases prevAt l k <;> rfl
        subst hq
        have hans : ans = 0 := HANS.out.symm
        subst hans
        clear HQ HK HANS
        go_wp2
        go_ret
        exact ⟨rfl, hbw⟩

set_option maxRecDepth 100000 in
theorem quietW {P : Program} {f : FuncId} {args : Array Value} {w : World} {d : Nat} {v : Value} (h : Calls P f args (w.drewN d) fun e w' => e = .returned v ∧ w.drewN d = w') :
    Calls P f args (w.drewN d) fun e w2 => e = .returned v ∧ ∃ m, w2 = w.drewN m := h.mono fun _ _ hh => ⟨hh.1, d, hh.2.symm⟩

structure One (w : World) (b o : Nat) (r : Row) (w' : World) : Prop where
  r : RowAt w' b o r
  hb : b < w'.heap.size
  below : Below w.heap.size w w'
set_option maxRecDepth 100000 in
theorem One.drew {w : World} {b o : Nat} {r : Row} {w' : World} (h : One w b o r w') : One w b o r w'.drew := ⟨h.r.keep fun _ => rfl, h.hb, h.below.drew⟩
set_option maxRecDepth 100000 in
theorem One.step {w : World} {b o : Nat} {r : Row} {w1 w2 : World} (h : One w b o r w1) (hb : Below w1.heap.size w1 w2) : One w b o r w2 :=
  ⟨h.r.below hb h.hb, Nat.lt_of_lt_of_le h.hb hb.size, h.below.trans (hb.mono h.below.size)⟩
set_option maxRecDepth 100000 in
theorem SO {w : World} {b o : Nat} {f e k n : Int} {s : ByteArray} {w' : World} (h : One w b o (f, e, k, n, s) w') :
    w'.cell? ⟨b, o, none⟩ = some (.int .i64 f) ∧ w'.cell? ⟨b, o + 1, none⟩ = some (.int .i64 e) ∧ w'.cell? ⟨b, o + 2, none⟩ = some (.int .i64 k) ∧ w'.cell? ⟨b, o + 3, none⟩ = some (.int .i64 n) ∧ w'.cell? ⟨b, o + 4, none⟩ = some (.string s) ∧ One w b o (f, e, k, n, s) w' :=
  ⟨h.r.c0, h.r.c1, h.r.c2, h.r.c3, h.r.c4, h⟩

end Go.Proofs.YtjanddnlhaionaaGreatDoor.L2
namespace Go.Proofs.YtjanddnlhaionaaGreatDoor.L2
open Go.ChangeShapes Go.WideShapes Go.ChangeAt Go.RowKit Go.Joins
open Go.ChangeMaps (open_string shut_string)

set_option maxRecDepth 100000 in
theorem Tryz.own : ownKnob Tryz.prog.godebug = none := by kernel_rfl
set_option maxRecDepth 100000 in
theorem Tryz.cells91 : Tryz.prog.cellsOf 91 = 3 := by kernel_rfl

set_option maxRecDepth 100000 in
theorem wf_i64 {n : Int} (h : (Lit.int .i64 n).wf = true) : -9223372036854775808 ≤ n ∧ n < 9223372036854775808 := by
  have := bounds_i64 h
  omega

set_option maxRecDepth 100000 in
/-- A value of the program, opened. -/
theorem open_val {H : Type} {enc : TypeId × Value → H} {w : World} {base : Nat} {spare : Nat → Bool} {held : Bool} {r : Reach} {b0 : Nat} {v : Value} {d : DataW H} {p : List MemPlace}
    (hv : Value.okWide Tryz.prog w r b0 91 v) (h : DataW.Trod enc Tryz.prog w base spare held 91 v d p) :
    ∃ (k n : Int) (s : ByteArray), v = .agg #[.int .i64 k, .int .i64 n, .string s] ∧ d = .agg [.lit (.int .i64 k), .lit (.int .i64 n), .lit (.string s.data.toList)] ∧ p = [] ∧ (Lit.int .i64 k).wf = true ∧ (Lit.int .i64 n).wf = true ∧ s.size ≤ maxLen := by
  obtain ⟨c0, c1, c2, y0, y1, y2, m, rfl, rfl, rfl, hy0, hy1, hy2⟩ := open_agg3 Tryz.underlying91 (by kernel_rfl) Tryz.cells91 hv h
  obtain ⟨k, e0, rfl, wk⟩ := DataW.trod_int Tryz.underlying89 hy0
  obtain ⟨n, e1, rfl, wn⟩ := DataW.trod_int Tryz.underlying3 hy1
  obtain ⟨s, e2, rfl, ws⟩ := DataW.trod_string Tryz.underlying9 hy2
  simp at e0 e1 e2
  subst e0 e1 e2
  exact ⟨k, n, s, rfl, rfl, rfl, wk, wn, ws⟩

set_option maxRecDepth 100000 in
theorem shut_val {H : Type} (enc : TypeId × Value → H) (w : World) (base : Nat) (spare : Nat → Bool) (held : Bool) {k n : Int} {s : ByteArray} (wk : (Lit.int .i64 k).wf = true) (wn : (Lit.int .i64 n).wf = true) (ws : s.size ≤ maxLen) :
    DataW.Trod enc Tryz.prog w base spare held 91 (.agg #[.int .i64 k, .int .i64 n, .string s]) (.agg [.lit (.int .i64 k), .lit (.int .i64 n), .lit (.string s.data.toList)]) [] :=
  shut_agg3 (y0 := (.lit (.int .i64 k), [])) (y1 := (.lit (.int .i64 n), [])) (y2 := (.lit (.string s.data.toList), [])) Tryz.underlying91 (by kernel_rfl) Tryz.cells91
    ⟨1, by simp [DataW.trod, Tryz.underlying89, wk]⟩ ⟨1, by simp [DataW.trod, Tryz.underlying3, wn]⟩ ⟨1, by simp [DataW.trod, Tryz.underlying9, ws]⟩
end Go.Proofs.YtjanddnlhaionaaGreatDoor.L2
namespace Go.Proofs.YtjanddnlhaionaaGreatDoor.L2
open Go.RowKit

def rowC (r : Row) : List Value := [.int .i64 r.1, .int .i64 r.2.1, .int .i64 r.2.2.1, .int .i64 r.2.2.2.1, .string r.2.2.2.2]
def rcells (l : List Row) : List Value := l.flatMap rowC
set_option maxRecDepth 100000 in
theorem rcells_cons (r : Row) (l : List Row) : rcells (r :: l) = rowC r ++ rcells l := rfl
set_option maxRecDepth 100000 in
theorem rcells_append (a b : List Row) : rcells (a ++ b) = rcells a ++ rcells b := by simp [rcells]
set_option maxRecDepth 100000 in
theorem rcells_length : ∀ l : List Row, (rcells l).length = l.length * 5
  | [] => rfl
  | r :: l => by rw [rcells_cons, List.length_append, rcells_length l, List.length_cons]; show 5 + _ = _; omega
set_option maxRecDepth 100000 in
theorem rcells_get : ∀ (l : List Row) (i j : Nat) (h : i < l.length), j < 5 → (rcells l)[i * 5 + j]? = (rowC l[i])[j]?
  | r :: l, 0, j, _, hj => by
    rw [rcells_cons, List.getElem?_append_left (by show _ < 5; omega), Nat.zero_mul, Nat.zero_add]; rfl
  | r :: l, i + 1, j, h, hj => by
    rw [rcells_cons, List.getElem?_append_right (by show 5 ≤ _; omega)]
    have := rcells_get l i j (by simpa using h) hj
    rw [show (i + 1) * 5 + j - (rowC r).length = i * 5 + j by show (i + 1) * 5 + j - 5 = _; omega, this]; rfl
set_option maxRecDepth 100000 in
theorem rcells_one (l : List Row) : ∀ u ∈ rcells l, u.oneCell' = true := by
  intro u hu
  obtain ⟨r, _, hr⟩ := List.mem_flatMap.1 hu
  simp only [rowC, List.mem_cons, List.not_mem_nil, or_false] at hr
  rcases hr with rfl | rfl | rfl | rfl | rfl <;> rfl

/-- The slice v is the call's own, and reads as l. -/
def OwnR (w : World) (n₀ : Nat) (v : Value) (l : List Row) : Prop := w.ownsRow n₀ 52 5 v l.length (rcells l)

set_option maxRecDepth 100000 in
theorem OwnR.rows {w : World} {n₀ : Nat} {v : Value} {l : List Row} (h : OwnR w n₀ v l) : RowsAt w w.heap.size v l := by
  rcases h.2 with ⟨rfl, h0⟩ | ⟨g, cap, cur, rfl, hb, hg, hnc, hcm, _, htake⟩
  · exact ⟨none, 0, by rw [h0], by omega, Nat.zero_le _, fun hl => by omega⟩
  · refine ⟨some ⟨g, 0, none⟩, cap, rfl, hnc, hcm, fun _ => ⟨g, 0, rfl, (Array.getElem?_eq_some_iff.1 hg).1, fun i hi => ?_⟩⟩
    have hc : ∀ j, j < 5 → w.cell? ⟨g, 0 + i * 5 + j, none⟩ = (rowC l[i])[j]? := fun j hj => by
      rw [Nat.zero_add, cell_of_row w g (i * 5 + j) cur 52 (0, 0) hg, ← rcells_get l i j hi hj, ← htake, List.getElem?_take, if_pos (by omega), Array.getElem?_toList]
    exact ⟨hc 0 (by omega), hc 1 (by omega), hc 2 (by omega), hc 3 (by omega), hc 4 (by omega)⟩

set_option maxRecDepth 100000 in
theorem OwnR.nil (w : World) (n₀ : Nat) : OwnR w n₀ (.slice none 0 0) [] := World.ownsRow_nil w n₀ 52 5

set_option maxRecDepth 100000 in
theorem grown_of_below {a w : World} (h : Below a.heap.size a w) (row : Option Nat) : a.grownBy w row := ⟨h.os, h.tape, h.output, h.size, fun i hi _ => h.block i hi⟩
set_option maxRecDepth 100000 in
theorem OwnR.below {w w' : World} {n₀ : Nat} {v : Value} {l : List Row} (h : OwnR w n₀ v l) (hb : Below w.heap.size w w') : OwnR w' n₀ v l :=
  World.ownsRow.kept h (grown_of_below hb none) (by cases v.ownBlock <;> simp)
set_option maxRecDepth 100000 in
theorem OwnR.slice {w : World} {n₀ : Nat} {v : Value} {l : List Row} (h : OwnR w n₀ v l) : ∃ A cap, v = .slice A l.length cap := by
  rcases h.2 with ⟨rfl, h0⟩ | ⟨g, cap, _, rfl, _⟩
  · exact ⟨none, 0, by rw [h0]⟩
  · exact ⟨_, cap, rfl⟩

set_option maxRecDepth 100000 in
theorem addL_snoc : ∀ (l : List Row) (p r : Row), addL (l ++ [p]) r = if contB p r then l ++ [(p.1, r.2.1, p.2.2)] else l ++ [p, r]
  | [], p, r => by
    show addL [p] r = _
    unfold addL
    by_cases h : p.2.1 = r.1 ∧ p.2.2 = r.2.2
    · rw [if_pos h, if_pos (by simp [contB, h])]; rfl
    · rw [if_neg h, if_neg (by simpa [contB] using h)]; rfl
  | x :: l, p, r => by
    have ih := addL_snoc l p r
    have : addL (x :: (l ++ [p])) r = x :: addL (l ++ [p]) r := by
      cases h : l ++ [p] with
      | nil => simp at h
      | cons y ys => rfl
    rw [List.cons_append, this, ih]
    split <;> rfl

set_option maxRecDepth 100000 in
theorem Tryz.info93 : (Tryz.prog.info? 93).map (fun i => (i.zero, i.size, i.bytes)) = some (some (.agg #[.int .i64 0, .int .i64 0, .int .i64 0, .int .i64 0, .string ⟨#[]⟩]), 5, 48) := by kernel_rfl

/-- What addRow leaves. -/
structure Added (n₀ : Nat) (w : World) (v : Value) (l : List Row) (v' : Value) (w' : World) : Prop where
  own : OwnR w' n₀ v' l
  grown : w.grownBy w' v.ownBlock
  row : v'.ownBlock = v.ownBlock ∨ ∃ k, v'.ownBlock = some k ∧ w.heap.size ≤ k

set_option maxRecDepth 100000 in
theorem grown_trans_none {a b c : World} {row : Option Nat} (h : a.grownBy b none) (k : b.grownBy c row) : a.grownBy c row :=
  ⟨k.os.trans h.os, k.tape.trans h.tape, k.output.trans h.output, Nat.le_trans h.size k.size, fun i hi hn => (k.block i (Nat.lt_of_lt_of_le hi h.size) hn).trans (h.block i hi (by simp))⟩

end Go.Proofs.YtjanddnlhaionaaGreatDoor.L2
