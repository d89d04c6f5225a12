/-
  Plain facts on Next, Take and Put; the contract of CellBack. No condition.
-/
import Derived.Test.YtdmalkkpcggifaaS
namespace Go.Proofs.Ytdmalkkpcggifaa
open Go.RowKit

theorem fit_of_lat {w : World} {B : Nat} : ∀ (d : Nat) (D : Nat) (u : Value) (l : List C), LAt w B d u l → ∀ x ∈ l, Fit D x
  | 0, _, _, _, h => h.elim
  | d + 1, D, u, l, h => by
    intro x hx
    obtain ⟨i, hi, rfl⟩ := List.getElem_of_mem hx
    obtain ⟨A, cap, -, -, -, h3⟩ := h
    obtain ⟨b, o, -, -, hr⟩ := h3 (by omega)
    obtain ⟨u', -, hwf, hs⟩ := hr i hi
    generalize l[i] = x at hwf hs
    obtain ⟨k, n, s, l'⟩ := x
    cases D with
    | zero => trivial
    | succ D => exact ⟨hwf.n0, hwf.n1, fit_of_lat d D u' l' hs⟩

theorem readsN_bad {f : List UInt8 → PR} (hf : ∀ x n z, f x = .bad n z → z ≠ 0) : ∀ (k : Nat) (x : List UInt8) (n : Nat) (z : Int), readsN f k x = .bad n z → z ≠ 0 := by
  intro k
  induction k with
  | zero => intro x n z h; rw [readsN] at h; cases h
  | succ k ih =>
    intro x n z h
    rw [readsN_succ] at h
    cases hq : f x with
    | bad a e => rw [hq] at h; injection h with h1 h2; subst h2; exact hf x a e hq
    | ok c r =>
      rw [hq] at h
      simp only at h
      cases hq2 : readsN f k r with
      | bad a e => rw [hq2] at h; injection h with h1 h2; subst h2; exact ih r a e hq2
      | ok l r' => rw [hq2] at h; cases h
theorem parse_bad (d : Nat) : ∀ (x : List UInt8) (n : Nat) (z : Int), parse d x = .bad n z → z ≠ 0 := by
  induction d with
  | zero =>
    intro x n z h
    cases x with
    | nil => rw [parse_nil] at h; injection h with h1 h2; omega
    | cons b x => rw [parse_zero] at h; injection h with h1 h2; subst h2; split <;> omega
  | succ d ih =>
    intro x n z h
    cases x with
    | nil => rw [parse_nil] at h; injection h with h1 h2; omega
    | cons b x =>
      rw [parse_succ] at h
      split at h
      · unfold based at h
        split at h
        · injection h with h1 h2; omega
        split at h
        · injection h with h1 h2; omega
        unfold body at h
        split at h
        · cases h
        split at h
        · cases h
        split at h
        · split at h
          · injection h with h1 h2; omega
          · cases h
        · split at h
          · rename_i a e hq
            injection h with h1 h2
            subst h2
            exact readsN_bad ih _ _ _ _ hq
          · cases h
      · injection h with h1 h2; omega

theorem take_put {c : C} (hok : okC 16 c = true) (hf : Fit 16 c) : takeM (putS c) = (c, 0) := by
  have hs : putS c = ⟨(encC 16 c).toArray⟩ := by unfold putS; rw [if_pos hok]
  have hsz : (putS c).size = (encC 16 c).length := by rw [hs]; rfl
  have hn : nextM (putS c) 0 = (c, ((putS c).size : Int), 0) := by
    unfold nextM
    rw [if_neg (by omega)]
    have : parse 16 ((putS c).data.toList.drop (0 : Int).toNat) = .ok c [] := by
      rw [hs]
      have := parse_enc 16 c [] hok hf
      rw [List.append_nil] at this
      exact this
    rw [this]
    rfl
  unfold takeM
  rw [hn]
  simp

/-- What Next told without an error. -/
theorem next_ok {s : ByteArray} {n : Int} {c : C} {to : Int} (h : nextM s n = (c, to, 0)) : 0 ≤ n ∧ n < to ∧ to ≤ s.size ∧ okC 16 c = true ∧ Fit 16 c ∧ putS c = cutS s n.toNat (to.toNat - n.toNat) := by
  unfold nextM at h
  split at h
  · injection h with h1 h2; injection h2 with h2 h3; omega
  rename_i hr
  cases hq : parse 16 (s.data.toList.drop n.toNat) with
  | bad a e =>
    rw [hq] at h
    have := parse_bad _ _ _ _ hq
    injection h with h1 h2
    injection h2 with h2 h3
    exact absurd h3 this
  | ok c' r =>
    rw [hq] at h
    injection h with h1 h2
    injection h2 with h2 h3
    subst h1
    obtain ⟨e1, e2, e3⟩ := parse_ok _ _ _ _ hq
    have hl := congrArg List.length e1
    rw [List.length_drop, List.length_append, size_data] at hl
    have hp := encC_pos e2
    refine ⟨by omega, by omega, by omega, e2, e3, ?_⟩
    unfold putS cutS
    rw [if_pos e2, e1]
    congr 2
    rw [show to.toNat - n.toNat = (encC 16 c').length by omega, List.take_left]
theorem next_bad {s : ByteArray} {n : Int} {c : C} {to e : Int} (h : nextM s n = (c, to, e)) (he : e ≠ 0) : c = zeroC := by
  unfold nextM at h
  split at h
  · injection h with h1 h2; exact h1.symm
  · cases hq : parse 16 (s.data.toList.drop n.toNat) with
    | bad a z => rw [hq] at h; injection h with h1 h2; exact h1.symm
    | ok c' r => rw [hq] at h; injection h with h1 h2; injection h2 with h2 h3; exact absurd h3.symm he

theorem few_len {c : C} (h : 0 < fewM 40 c 5000) (hok : okC 16 c = true) : (encC 16 c).length ≤ 550000 := by
  have := few_enc 16 40 c 5000 hok h
  omega

theorem LIn.step {w w' : World} {S : Nat → Prop} {d : Nat} {u : Value} {l : List C} (h : LIn w S d u l) (hS : ∀ b, S b → b < w.heap.size) (hb : Below w.heap.size w w') : LAt w' w'.heap.size d u l := (h.lat hS).step hb
end Go.Proofs.Ytdmalkkpcggifaa
