/-
  Plain lists: segments of time with values, their canonical form, and that it is one. No condition.
-/
namespace Go.Proofs.Ytecefhoinggmgaa

abbrev Seg (α : Type) := Int × Int × α

section
variable {α : Type}

def lk : List (Seg α) → Int → Option α
  | [], _ => none
  | x :: r, t => if x.1 ≤ t ∧ t < x.2.1 then some x.2.2 else lk r t

/-- Sorted and apart, from lo on. -/
def Up : Int → List (Seg α) → Prop
  | _, [] => True
  | lo, x :: r => lo ≤ x.1 ∧ x.1 < x.2.1 ∧ Up x.2.1 r

/-- Canonical: sorted, and no two that touch have one value; all of it ends at E or before. -/
def CE : Int → Option α → List (Seg α) → Int → Prop
  | lo, _, [], E => lo ≤ E
  | lo, pv, x :: r, E => lo ≤ x.1 ∧ x.1 < x.2.1 ∧ ¬ (x.1 = lo ∧ pv = some x.2.2) ∧ CE x.2.1 (some x.2.2) r E

theorem CE.up : ∀ {l : List (Seg α)} {lo : Int} {pv : Option α} {E : Int}, CE lo pv l E → Up lo l
  | [], _, _, _, _ => trivial
  | _ :: _, _, _, _, h => ⟨h.1, h.2.1, h.2.2.2.up⟩
theorem CE.le : ∀ {l : List (Seg α)} {lo : Int} {pv : Option α} {E : Int}, CE lo pv l E → lo ≤ E
  | [], _, _, _, h => h
  | x :: r, _, _, _, h => by have h1 := h.2.2.2.le; have := h.1; have := h.2.1; omega
theorem CE.mono : ∀ {l : List (Seg α)} {lo : Int} {pv : Option α} {E E' : Int}, CE lo pv l E → E ≤ E' → CE lo pv l E'
  | [], _, _, _, _, h, h' => Int.le_trans h h'
  | _ :: _, _, _, _, _, h, h' => ⟨h.1, h.2.1, h.2.2.1, h.2.2.2.mono h'⟩
theorem CE.from_ : ∀ {l : List (Seg α)} {lo lo' : Int} {E : Int}, CE lo none l E → lo' ≤ lo → CE lo' none l E
  | [], _, _, _, h, h' => Int.le_trans h' h
  | _ :: _, _, _, _, h, h' => ⟨Int.le_trans h' h.1, h.2.1, by simp, h.2.2.2⟩
theorem CE.any : ∀ {l : List (Seg α)} {lo : Int} {pv : Option α} {E : Int}, CE lo pv l E → CE lo none l E
  | [], _, _, _, h => h
  | _ :: _, _, _, _, h => ⟨h.1, h.2.1, by simp, h.2.2.2⟩
theorem Up.from_ : ∀ {l : List (Seg α)} {lo lo' : Int}, Up lo l → lo' ≤ lo → Up lo' l
  | [], _, _, _, _ => trivial
  | _ :: _, _, _, h, h' => ⟨Int.le_trans h' h.1, h.2⟩

theorem lk_before : ∀ {l : List (Seg α)} {lo t : Int}, Up lo l → t < lo → lk l t = none
  | [], _, _, _, _ => rfl
  | x :: r, lo, t, h, ht => by
    have h1 := h.1
    have h2 := h.2.1
    rw [lk, if_neg (by omega)]
    exact lk_before h.2.2 (by omega)
theorem lk_after : ∀ {l : List (Seg α)} {lo E t : Int} {pv : Option α}, CE lo pv l E → E ≤ t → lk l t = none
  | [], _, _, _, _, _, _ => rfl
  | x :: r, lo, E, t, _, h, ht => by
    have h1 := h.2.2.2.le
    rw [lk, if_neg (by omega)]
    exact lk_after h.2.2.2 ht
theorem lk_tail {x : Seg α} {r : List (Seg α)} {t : Int} (ht : x.2.1 ≤ t) : lk (x :: r) t = lk r t := by
  rw [lk, if_neg (by omega)]

/-- The canonical form is one. -/
theorem canon_eq : ∀ {l l' : List (Seg α)} {lo E E' : Int} {pv pv' : Option α}, CE lo pv l E → CE lo pv' l' E' → (∀ t, lo ≤ t → lk l t = lk l' t) → l = l'
  | [], [], _, _, _, _, _, _, _, _ => rfl
  | [], y :: r', lo, _, _, _, _, _, h', hh => by
    have h1 := h'.1
    have h2 := h'.2.1
    have := hh y.1 h1
    rw [lk, lk, if_pos (by omega)] at this
    cases this
  | x :: r, [], lo, _, _, _, _, h, _, hh => by
    have h1 := h.1
    have h2 := h.2.1
    have := hh x.1 h1
    rw [lk, lk, if_pos (by omega)] at this
    cases this
  | x :: r, y :: r', lo, E, E', pv, pv', h, h', hh => by
    obtain ⟨f, e, v⟩ := x
    obtain ⟨f', e', v'⟩ := y
    obtain ⟨h1, h2, _, h4⟩ := h
    obtain ⟨g1, g2, _, g4⟩ := h'
    simp only at h1 h2 h4 g1 g2 g4
    have hf : f = f' := by
      rcases Int.lt_trichotomy f f' with a | a | a
      · have := hh f h1
        rw [lk, if_pos (by simp only; omega), lk, if_neg (by simp only; omega), lk_before g4.up (by omega)] at this
        cases this
      · exact a
      · have := hh f' g1
        rw [lk, if_neg (by simp only; omega), lk_before h4.up (by omega), lk, if_pos (by simp only; omega)] at this
        cases this
    subst hf
    have hv : v = v' := by
      have := hh f h1
      rw [lk, if_pos (by simp only; omega), lk, if_pos (by simp only; omega)] at this
      injection this
    subst hv
    have key : ∀ {r : List (Seg α)} {e e' E : Int}, CE e (some v) r E → e < e' → lk r e ≠ some v := by
      intro r e e' E hc hlt hk
      cases r with
      | nil => cases hk
      | cons z r =>
        obtain ⟨c1, c2, c3, c4⟩ := hc
        by_cases hz : z.1 = e
        · rw [lk, if_pos (by omega)] at hk
          exact c3 ⟨hz, hk.symm⟩
        · rw [lk, if_neg (by omega), lk_before c4.up (by omega)] at hk
          cases hk
    have he : e = e' := by
      rcases Int.lt_trichotomy e e' with a | a | a
      · have := hh e (by omega)
        rw [lk, if_neg (by simp only; omega), lk, if_pos (by simp only; omega)] at this
        exact (key h4 a this).elim
      · exact a
      · have := hh e' (by omega)
        rw [lk, if_pos (by simp only; omega), lk, if_neg (by simp only; omega)] at this
        exact (key g4 a this.symm).elim
    subst he
    have hr : r = r' := canon_eq h4 g4 fun t ht => by
      have := hh t (by omega)
      rw [lk, if_neg (by simp only; omega), lk, if_neg (by simp only; omega)] at this
      exact this
    rw [hr]

section
variable [DecidableEq α]
/-- One more behind; it is one with the last one that it touches and that has its value. -/
def addL : List (Seg α) → Seg α → List (Seg α)
  | [], x => [x]
  | [y], x => if y.2.1 = x.1 ∧ y.2.2 = x.2.2 then [(y.1, x.2.1, y.2.2)] else [y, x]
  | y :: z :: r, x => y :: addL (z :: r) x

theorem addL_ne : ∀ (l : List (Seg α)) (x : Seg α), addL l x ≠ []
  | [], x => by simp [addL]
  | [y], x => by unfold addL; split <;> simp
  | _ :: _ :: _, _ => by simp [addL]

theorem addL_length : ∀ (l : List (Seg α)) (x : Seg α), l.length ≤ (addL l x).length ∧ (addL l x).length ≤ l.length + 1
  | [], x => by simp [addL]
  | [y], x => by unfold addL; split <;> simp
  | _ :: z :: r, x => by have := addL_length (z :: r) x; simp only [addL, List.length_cons] at this ⊢; omega

theorem addL_spec : ∀ (l : List (Seg α)) (x : Seg α) {lo : Int} {pv : Option α}, CE lo pv l x.1 → x.1 < x.2.1 → (l = [] → ¬ (x.1 = lo ∧ pv = some x.2.2)) →
    CE lo pv (addL l x) x.2.1 ∧ ∀ t, lk (addL l x) t = if x.1 ≤ t ∧ t < x.2.1 then some x.2.2 else lk l t
  | [], x, lo, pv, h, hx, hn => ⟨⟨h, hx, hn rfl, Int.le_refl _⟩, fun t => rfl⟩
  | [y], x, lo, pv, h, hx, _ => by
    obtain ⟨h1, h2, h3, h4⟩ := h
    unfold addL
    split
    · rename_i hc
      refine ⟨⟨h1, by simp only; omega, h3, Int.le_refl _⟩, fun t => ?_⟩
      simp only [lk]
      rw [← hc.2]
      have := hc.1
      by_cases a : x.1 ≤ t ∧ t < x.2.1
      · rw [if_pos (by omega), if_pos a]
      · rw [if_neg a]
        by_cases b : y.1 ≤ t ∧ t < y.2.1
        · rw [if_pos (by omega), if_pos b]
        · rw [if_neg (by omega), if_neg b]
    · rename_i hc
      have h4' : y.2.1 ≤ x.1 := h4
      refine ⟨⟨h1, h2, h3, h4', hx, fun hh => hc ⟨hh.1.symm, by injection hh.2⟩, Int.le_refl _⟩, fun t => ?_⟩
      simp only [lk]
      by_cases a : x.1 ≤ t ∧ t < x.2.1
      · rw [if_neg (by omega), if_pos a, if_pos a]
      · rw [if_neg a, if_neg a]
  | y :: z :: r, x, lo, pv, h, hx, _ => by
    obtain ⟨h1, h2, h3, h4⟩ := h
    obtain ⟨g1, g2⟩ := addL_spec (z :: r) x h4 hx (by simp)
    refine ⟨⟨h1, h2, h3, g1⟩, fun t => ?_⟩
    have hle := h4.le
    show lk (y :: addL (z :: r) x) t = if _ then _ else lk (y :: z :: r) t
    rw [lk, g2 t]
    by_cases a : x.1 ≤ t ∧ t < x.2.1
    · rw [if_neg (by omega), if_pos a, if_pos a]
    · rw [if_neg a, if_neg a]; rfl

def joinStep (nn : α → Bool) (out : List (Seg α)) (x : Seg α) : List (Seg α) := if nn x.2.2 then out else addL out x
def joins (nn : α → Bool) (out : List (Seg α)) (S : List (Seg α)) : List (Seg α) := S.foldl (joinStep nn) out

theorem joinStep_length (nn : α → Bool) (out : List (Seg α)) (x : Seg α) : out.length ≤ (joinStep nn out x).length := by
  unfold joinStep
  split
  · exact Nat.le_refl _
  · exact (addL_length out x).1
theorem joins_length (nn : α → Bool) : ∀ (S out : List (Seg α)), out.length ≤ (joins nn out S).length
  | [], _ => Nat.le_refl _
  | x :: S, out => Nat.le_trans (joinStep_length nn out x) (joins_length nn S _)

theorem joins_spec (nn : α → Bool) : ∀ (S out : List (Seg α)) {lo E : Int}, CE lo none out E → Up E S →
    (∃ E', CE lo none (joins nn out S) E') ∧ ∀ t, lk (joins nn out S) t = match lk S t with | some v => (if nn v then lk out t else some v) | none => lk out t
  | [], out, lo, E, h, _ => ⟨⟨E, h⟩, fun t => rfl⟩
  | x :: S, out, lo, E, h, hU => by
    obtain ⟨u1, u2, u3⟩ := hU
    have hstep : (∃ E1, CE lo none (joinStep nn out x) E1 ∧ E1 ≤ x.2.1) ∧ ∀ t, lk (joinStep nn out x) t = if (x.1 ≤ t ∧ t < x.2.1) ∧ nn x.2.2 = false then some x.2.2 else lk out t := by
      unfold joinStep
      by_cases hn : nn x.2.2 = true
      · rw [if_pos hn]
        exact ⟨⟨E, h, by omega⟩, fun t => by simp [hn]⟩
      · rw [if_neg hn]
        obtain ⟨a1, a2⟩ := addL_spec out x (h.mono u1) u2 (by simp)
        refine ⟨⟨_, a1, Int.le_refl _⟩, fun t => ?_⟩
        rw [a2 t]
        simp [Bool.eq_false_iff.2 hn]
    obtain ⟨⟨E1, c1, c2⟩, c3⟩ := hstep
    obtain ⟨d1, d2⟩ := joins_spec nn S (joinStep nn out x) c1 (u3.from_ c2)
    refine ⟨d1, fun t => ?_⟩
    show lk (joins nn (joinStep nn out x) S) t = _
    rw [d2 t, c3 t]
    rw [lk]
    by_cases hi : x.1 ≤ t ∧ t < x.2.1
    · rw [if_pos hi, lk_before u3 (by omega)]
      cases hn : nn x.2.2 <;> simp [hi, hn]
    · rw [if_neg hi]
      cases lk S t with
      | none => simp [hi]
      | some v => simp [hi]

/-- What is joined is canonical, and has what the segments have. -/
theorem joins_nil (nn : α → Bool) (S : List (Seg α)) {lo : Int} (h : Up lo S) :
    (∃ E, CE lo none (joins nn [] S) E) ∧ ∀ t, lk (joins nn [] S) t = (lk S t).bind fun v => if nn v then none else some v := by
  obtain ⟨a, b⟩ := joins_spec nn S [] (show CE lo none [] lo from Int.le_refl _) h
  refine ⟨a, fun t => ?_⟩
  rw [b t]
  cases lk S t <;> rfl

end

/-! Times that rise, and segments between them. -/

def Inc : List Int → Prop
  | [] => True
  | [_] => True
  | a :: b :: r => a < b ∧ Inc (b :: r)

theorem Inc.tail {a : Int} {r : List Int} (h : Inc (a :: r)) : Inc r := by
  cases r with
  | nil => trivial
  | cons b r => exact h.2
theorem Inc.lt : ∀ {a : Int} {r : List Int}, Inc (a :: r) → ∀ b ∈ r, a < b
  | _, [], _, _, hb => by cases hb
  | a, c :: r, h, b, hb => by
    rcases List.mem_cons.1 hb with rfl | hb
    · exact h.1
    · have := h.2.lt b hb
      have := h.1
      omega

def segs (g : Int → Int → α) : List Int → List (Seg α)
  | a :: b :: r => (a, b, g a b) :: segs g (b :: r)
  | _ => []

theorem segs_up (g : Int → Int → α) : ∀ {a : Int} {r : List Int}, Inc (a :: r) → Up a (segs g (a :: r))
  | _, [], _ => trivial
  | _, _ :: _, h => ⟨Int.le_refl _, h.1, segs_up g h.2⟩

theorem segs_lk (g : Int → Int → α) (G : Int → α) : ∀ {b : List Int}, Inc b → (∀ a c t, a ∈ b → c ∈ b → (∀ x ∈ b, ¬ (a < x ∧ x < c)) → a < c → a ≤ t → t < c → g a c = G t) →
    ∀ t, lk (segs g b) t = if (∃ a ∈ b, a ≤ t) ∧ (∃ c ∈ b, t < c) then some (G t) else none
  | [], _, _, t => by rw [if_neg (by simp)]; rfl
  | [a], _, _, t => by rw [if_neg (by rintro ⟨⟨x, hx, h1⟩, ⟨y, hy, h2⟩⟩; simp at hx hy; omega)]; rfl
  | a :: b :: r, hI, hg, t => by
    show lk ((a, b, g a b) :: segs g (b :: r)) t = _
    have hlt := hI.lt
    have ih := segs_lk g G hI.2 (fun x y s hx hy hn h1 h2 h3 => hg x y s (List.mem_cons_of_mem _ hx) (List.mem_cons_of_mem _ hy) (fun z hz => by
      rcases List.mem_cons.1 hz with rfl | hz
      · have := hlt x hx; omega
      · exact hn z hz) h1 h2 h3) t
    rw [lk]
    by_cases hi : a ≤ t ∧ t < b
    · rw [if_pos hi, if_pos ⟨⟨a, List.mem_cons_self, hi.1⟩, ⟨b, by simp, hi.2⟩⟩]
      simp only
      rw [hg a b t List.mem_cons_self (by simp) (fun x hx => ?_) hI.1 hi.1 hi.2]
      rcases List.mem_cons.1 hx with rfl | hx
      · omega
      · rcases List.mem_cons.1 hx with rfl | hx
        · omega
        · have := hI.2.lt x hx; omega
    · rw [if_neg hi, ih]
      by_cases h1 : t < a
      · rw [if_neg, if_neg]
        · rintro ⟨⟨x, hx, hxt⟩, _⟩
          rcases List.mem_cons.1 hx with rfl | hx
          · omega
          · have := hlt x hx; omega
        · rintro ⟨⟨x, hx, hxt⟩, _⟩
          have := hlt x hx; omega
      · have hbt : b ≤ t := by omega
        have hab := hI.1
        congr 1
        apply propext
        constructor
        · rintro ⟨_, ⟨c, hc, hct⟩⟩
          exact ⟨⟨a, List.mem_cons_self, by omega⟩, ⟨c, List.mem_cons_of_mem _ hc, hct⟩⟩
        · rintro ⟨_, ⟨c, hc, hct⟩⟩
          rcases List.mem_cons.1 hc with rfl | hc
          · omega
          · exact ⟨⟨b, List.mem_cons_self, hbt⟩, ⟨c, hc, hct⟩⟩

/-- Times with one more. -/
def insL : List Int → Int → List Int
  | [], n => [n]
  | a :: r, n => if n ≤ a then n :: (a :: r).filter (fun x => decide (x ≠ n)) else a :: insL r n

theorem insL_mem : ∀ (l : List Int) (n x : Int), x ∈ insL l n ↔ x = n ∨ x ∈ l
  | [], n, x => by simp [insL]
  | a :: r, n, x => by
    unfold insL
    split
    · simp only [List.mem_cons, List.mem_filter, decide_eq_true_eq]
      constructor
      · rintro (h | ⟨h, _⟩)
        · exact .inl h
        · exact .inr h
      · rintro (h | h)
        · exact .inl h
        · by_cases e : x = n
          · exact .inl e
          · exact .inr ⟨h, e⟩
    · rw [List.mem_cons, insL_mem r n x, List.mem_cons]
      constructor
      · rintro (h | h | h)
        · exact .inr (.inl h)
        · exact .inl h
        · exact .inr (.inr h)
      · rintro (h | h | h)
        · exact .inr (.inl h)
        · exact .inl h
        · exact .inr (.inr h)

theorem inc_cons {a : Int} {r : List Int} (h : Inc r) (hl : ∀ b ∈ r, a < b) : Inc (a :: r) := by
  cases r with
  | nil => trivial
  | cons b r => exact ⟨hl b List.mem_cons_self, h⟩
theorem inc_filter (p : Int → Bool) : ∀ {l : List Int}, Inc l → Inc (l.filter p)
  | [], _ => by simp [Inc]
  | a :: r, h => by
    have ih := inc_filter p h.tail
    rw [List.filter_cons]
    split
    · exact inc_cons ih fun b hb => h.lt b (List.mem_filter.1 hb).1
    · exact ih
theorem insL_inc : ∀ {l : List Int} (n : Int), Inc l → Inc (insL l n)
  | [], n, _ => trivial
  | a :: r, n, h => by
    unfold insL
    split
    · rename_i hle
      refine inc_cons (inc_filter _ h) fun b hb => ?_
      obtain ⟨hb, hne⟩ := List.mem_filter.1 hb
      have hne : b ≠ n := by simpa using hne
      rcases List.mem_cons.1 hb with rfl | hb
      · omega
      · have := h.lt b hb; omega
    · rename_i hle
      refine inc_cons (insL_inc n h.tail) fun b hb => ?_
      rcases (insL_mem r n b).1 hb with rfl | hb
      · omega
      · exact h.lt b hb

def boundsL {β : Type} (more : List Int) (l : List (Seg β)) : List Int := l.foldl (fun out x => insL (insL out x.1) x.2.1) more
theorem boundsL_inc {β : Type} : ∀ (l : List (Seg β)) {more : List Int}, Inc more → Inc (boundsL more l)
  | [], _, h => h
  | _ :: r, _, h => boundsL_inc r (insL_inc _ (insL_inc _ h))
theorem boundsL_mem {β : Type} : ∀ (l : List (Seg β)) (more : List Int) (t : Int), t ∈ boundsL more l ↔ t ∈ more ∨ ∃ x ∈ l, t = x.1 ∨ t = x.2.1
  | [], more, t => by simp [boundsL]
  | x :: r, more, t => by
    show t ∈ boundsL (insL (insL more x.1) x.2.1) r ↔ _
    rw [boundsL_mem r, insL_mem, insL_mem]
    constructor
    · rintro ((h | h | h) | ⟨y, hy, h⟩)
      · exact .inr ⟨x, List.mem_cons_self, .inr h⟩
      · exact .inr ⟨x, List.mem_cons_self, .inl h⟩
      · exact .inl h
      · exact .inr ⟨y, List.mem_cons_of_mem _ hy, h⟩
    · rintro (h | ⟨y, hy, h⟩)
      · exact .inl (.inr (.inr h))
      · rcases List.mem_cons.1 hy with rfl | hy
        · rcases h with h | h
          · exact .inl (.inr (.inl h))
          · exact .inl (.inl h)
        · exact .inr ⟨y, hy, h⟩

/-- Between two neighbours of times that hold all bounds, what is had stays. -/
theorem lk_const : ∀ {l : List (Seg α)} {b : List Int} {a c t : Int}, (∀ x ∈ l, x.1 ∈ b ∧ x.2.1 ∈ b) → (∀ x ∈ b, ¬ (a < x ∧ x < c)) → a ≤ t → t < c → lk l a = lk l t
  | [], _, _, _, _, _, _, _, _ => rfl
  | x :: r, b, a, c, t, hb, hn, h1, h2 => by
    have hx := hb x List.mem_cons_self
    have n1 := hn _ hx.1
    have n2 := hn _ hx.2
    have ih := lk_const (l := r) (fun y hy => hb y (List.mem_cons_of_mem _ hy)) hn h1 h2
    rw [lk, lk, ih]
    by_cases hi : x.1 ≤ a ∧ a < x.2.1
    · rw [if_pos hi, if_pos (by omega)]
    · rw [if_neg hi, if_neg (by omega)]

theorem lk_bound : ∀ {l : List (Seg α)} {t : Int} {v : α}, lk l t = some v → ∃ x ∈ l, x.1 ≤ t ∧ t < x.2.1 ∧ x.2.2 = v
  | [], _, _, h => by cases h
  | x :: r, t, v, h => by
    rw [lk] at h
    split at h
    · rename_i hi
      exact ⟨x, List.mem_cons_self, hi.1, hi.2, by injection h⟩
    · obtain ⟨y, hy, h'⟩ := lk_bound h
      exact ⟨y, List.mem_cons_of_mem _ hy, h'⟩
end
end Go.Proofs.Ytecefhoinggmgaa
