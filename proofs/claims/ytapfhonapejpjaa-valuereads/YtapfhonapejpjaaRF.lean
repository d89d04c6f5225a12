import Derived.Test.YtapfhonapejpjaaRE
import Derived.BigQuiet
namespace Go.Proofs.Ytapfhonapejpjaa
open Go.RowKit

/-- The reader's walk over what is left of a text. -/
def run (pos : Nat) (l : List UInt8) (r : R) : Nat ⊕ R := runL readR l.length pos l r
theorem run_nil (pos : Nat) (r : R) : run pos [] r = .inr r := runL_end
theorem run_step (pos : Nat) {l : List UInt8} (hl : l ≠ []) (r : R) : run pos l r = match dec4 l with
    | none => .inl pos
    | some (c, d) => match readR r c with
      | none => .inl pos
      | some r' => run (pos + d) (l.drop d) r' := by
  unfold run
  cases l with
  | nil => exact absurd rfl hl
  | cons b t =>
    rw [List.length_cons, runL_step readR t.length pos hl]
    cases hd : dec4 (b :: t) with
    | none => rfl
    | some cd =>
      obtain ⟨c, d⟩ := cd
      obtain ⟨d1, _, d3, _⟩ := dec4_split hd
      simp only
      cases readR r c with
      | none => rfl
      | some r' =>
        simp only
        have hl2 : ((b :: t).drop d).length ≤ t.length := by rw [List.length_drop, List.length_cons]; omega
        exact runL_fuel readR t.length _ (pos + d) _ r' hl2 (Nat.le_refl _)

theorem parse_run (l : List UInt8) : parseR l = parseEnd l.length (run 0 l R0) := rfl

/-- Outside a string no code point of more than one byte is read. -/
theorem read_high {r : R} (h4 : r.st ≠ 4) {c : Nat} (hc : 128 ≤ c) : readR r c = none := by
  unfold readR
  split
  · unfold readFirstR readDigitR
    rw [if_neg (by omega), if_neg (by omega), if_neg (by omega), if_pos (by omega)]
  split
  · rw [if_neg (by omega)]; unfold readDigitR; rw [if_pos (by omega)]
  split
  · unfold readDigitR; rw [if_pos (by omega)]
  split
  · unfold readEscapeR; rw [if_neg (by omega), if_neg (by omega), if_neg (by omega)]
  split
  · unfold readHighR; rw [if_neg (by omega)]
  split
  · unfold readLowR lowR; rw [if_neg (by omega), if_neg (by omega)]
  · rfl

theorem dec4_high {b : UInt8} {t : List UInt8} {c d : Nat} (hb : 128 ≤ b.toNat) (h : dec4 (b :: t) = some (c, d)) : 128 ≤ c := by
  unfold dec4 at h
  simp only at h
  rw [if_neg (by omega)] at h
  split at h
  · split at h
    · split at h
      · simp only [Option.some.injEq, Prod.mk.injEq] at h; omega
      · cases h
    · cases h
  · split at h
    · split at h
      · split at h
        · simp only [Option.some.injEq, Prod.mk.injEq] at h; omega
        · cases h
      · cases h
    · split at h
      · split at h
        · split at h
          · simp only [Option.some.injEq, Prod.mk.injEq] at h; omega
          · cases h
        · cases h
      · cases h

theorem run_one {r : R} (h4 : r.st ≠ 4) (pos : Nat) (b : UInt8) (t : List UInt8) : run pos (b :: t) r = match readR r b.toNat with
    | none => .inl pos
    | some r' => run (pos + 1) t r' := by
  rw [run_step pos (by simp)]
  by_cases hb : b.toNat < 128
  · rw [dec4_1 hb]; rfl
  · rw [read_high h4 (c := b.toNat) (by omega)]
    cases hd : dec4 (b :: t) with
    | none => rfl
    | some cd =>
      obtain ⟨c, d⟩ := cd
      simp only
      rw [read_high h4 (dec4_high (by omega) hd)]

theorem run_ascii4 {r : R} (pos : Nat) {b : UInt8} (hb : b.toNat < 128) (t : List UInt8) : run pos (b :: t) r = match readR r b.toNat with
    | none => .inl pos
    | some r' => run (pos + 1) t r' := by
  rw [run_step pos (by simp), dec4_1 hb]; rfl

/-- low -/
def lowB (b : Nat) : Int := if 48 ≤ b ∧ b ≤ 57 then (b : Int) - 48 else if 97 ≤ b ∧ b ≤ 102 then (b : Int) - 87 else -1
/-- escape: the byte, or -1; how far. -/
def escR (l : List UInt8) : Int × Nat :=
  match l with
  | [] => (-1, 0)
  | b :: t =>
    if b.toNat = 34 ∨ b.toNat = 92 then ((b.toNat : Int), 1) else if b.toNat = 110 then (10, 1) else if b.toNat = 120 then
      match t with
      | [] => (-1, 1)
      | h :: u =>
        if h.toNat = 48 ∨ h.toNat = 49 ∨ h.toNat = 55 then
          match u with
          | [] => (-1, 2)
          | x :: _ => if lowB x.toNat < 0 then (-1, 2) else if pointOk (16 * lowB h.toNat + lowB x.toNat) then (16 * lowB h.toNat + lowB x.toNat, 3) else (-1, 2)
        else (-1, 1)
    else (-1, 0)

theorem lowR_lowB (b : Nat) : lowR (b : Int) = if lowB b < 0 then none else some (lowB b) := by
  unfold lowR lowB
  by_cases h1 : 48 ≤ b ∧ b ≤ 57
  · rw [if_pos (by omega), if_pos h1, if_neg (by omega)]
  · rw [if_neg (by omega), if_neg h1]
    by_cases h2 : 97 ≤ b ∧ b ≤ 102
    · rw [if_pos (by omega), if_pos h2, if_neg (by omega)]; congr 1; omega
    · rw [if_neg (by omega), if_neg h2]; rfl

/-- What an escape does to the reader. -/
theorem esc_run (l : List UInt8) (pos : Nat) (r : R) (h5 : r.st = 5) :
    (0 ≤ (escR l).1 → (escR l).1 < 128 ∧ (escR l).2 ≤ l.length ∧ 1 ≤ (escR l).2 ∧ ∃ h, run pos l r = run (pos + (escR l).2) (l.drop (escR l).2) (addPointR { r with hi := h } (escR l).1)) ∧
    ((escR l).1 < 0 → (escR l).2 ≤ 2 ∧ ((escR l).2 < l.length → run pos l r = .inl (pos + (escR l).2)) ∧ (l.length ≤ (escR l).2 → ∃ r', run pos l r = .inr r' ∧ completeR r' = false)) := by
  have n4 : r.st ≠ 4 := by omega
  have inc : ∀ x : R, (x.st = 5 ∨ x.st = 6 ∨ x.st = 7) → completeR x = false := fun x hx => by
    unfold completeR; rcases hx with q | q | q <;> rw [q] <;> rfl
  match l with
  | [] =>
    refine ⟨fun q => by simp [escR] at q, fun _ => ⟨by simp [escR], fun q => by simp [escR] at q, fun _ => ⟨r, run_nil _ _, inc r (.inl h5)⟩⟩⟩
  | b :: t =>
    rw [run_one n4, show readR r b.toNat = readEscapeR r b.toNat by simp [readR, h5]]
    unfold escR readEscapeR
    simp only
    by_cases h1 : b.toNat = 34 ∨ b.toNat = 92
    · rw [if_pos h1, if_pos (show (b.toNat : Int) = 34 ∨ (b.toNat : Int) = 92 by omega)]
      refine ⟨fun _ => ⟨by simp only; omega, by simp, by simp, r.hi, rfl⟩, fun q => by simp only at q; omega⟩
    rw [if_neg h1, if_neg (show ¬ ((b.toNat : Int) = 34 ∨ (b.toNat : Int) = 92) by omega)]
    by_cases h2 : b.toNat = 110
    · rw [if_pos h2, if_pos (show (b.toNat : Int) = 110 by omega)]
      refine ⟨fun _ => ⟨by simp, by simp, by simp, r.hi, rfl⟩, fun q => by simp at q⟩
    rw [if_neg h2, if_neg (show ¬ (b.toNat : Int) = 110 by omega)]
    by_cases h3 : b.toNat = 120
    · rw [if_pos h3, if_pos (show (b.toNat : Int) = 120 by omega)]
      simp only
      match t with
      | [] =>
        refine ⟨fun q => by simp at q, fun _ => ⟨by simp, fun q => by simp at q, fun _ => ⟨_, run_nil _ _, inc _ (.inr (.inl rfl))⟩⟩⟩
      | h :: u =>
        rw [run_one (by simp), show readR { r with st := 6 } h.toNat = readHighR { r with st := 6 } h.toNat by simp [readR]]
        unfold readHighR
        simp only
        by_cases h4 : h.toNat = 48 ∨ h.toNat = 49 ∨ h.toNat = 55
        · rw [if_pos h4, if_pos (show (h.toNat : Int) = 48 ∨ (h.toNat : Int) = 49 ∨ (h.toNat : Int) = 55 by omega)]
          simp only
          match u with
          | [] =>
            refine ⟨fun q => by simp at q, fun _ => ⟨by simp, fun q => by simp at q, fun _ => ⟨_, run_nil _ _, inc _ (.inr (.inr rfl))⟩⟩⟩
          | x :: v =>
            rw [run_one (by simp), show readR { r with st := 7, hi := (h.toNat : Int) - 48 } x.toNat = readLowR { r with st := 7, hi := (h.toNat : Int) - 48 } x.toNat by simp [readR]]
            unfold readLowR
            rw [lowR_lowB]
            simp only
            by_cases h6 : lowB x.toNat < 0
            · rw [if_pos h6, if_pos h6]
              refine ⟨fun q => by simp at q, fun _ => ⟨by simp, fun _ => rfl, fun q => by simp at q⟩⟩
            · rw [if_neg h6, if_neg h6]
              simp only
              have hlh : lowB h.toNat = (h.toNat : Int) - 48 := by unfold lowB; rw [if_pos (by omega)]
              rw [hlh, show ((h.toNat : Int) - 48) * 16 + lowB x.toNat = 16 * ((h.toNat : Int) - 48) + lowB x.toNat by omega]
              cases hok : pointOk (16 * ((h.toNat : Int) - 48) + lowB x.toNat) with
              | true =>
                have hlx : lowB x.toNat ≤ 15 := by unfold lowB; repeat' split; all_goals omega
                rw [if_pos rfl, if_pos rfl]
                refine ⟨fun _ => ⟨by simp only; omega, by simp, by simp, (h.toNat : Int) - 48, rfl⟩, fun q => by simp only at q; omega⟩
              | false =>
                rw [if_neg (by simp), if_neg (by simp)]
                refine ⟨fun q => by simp at q, fun _ => ⟨by simp, fun _ => rfl, fun q => by simp at q⟩⟩
        · rw [if_neg h4, if_neg (show ¬ ((h.toNat : Int) = 48 ∨ (h.toNat : Int) = 49 ∨ (h.toNat : Int) = 55) by omega)]
          refine ⟨fun q => by simp at q, fun _ => ⟨by simp, fun _ => rfl, fun q => by simp at q⟩⟩
    · rw [if_neg h3, if_neg (show ¬ (b.toNat : Int) = 120 by omega)]
      refine ⟨fun q => by simp at q, fun _ => ⟨by simp, fun _ => rfl, fun q => by simp at q⟩⟩
end Go.Proofs.Ytapfhonapejpjaa
