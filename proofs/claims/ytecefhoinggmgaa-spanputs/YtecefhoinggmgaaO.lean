import Derived.Test.YtecefhoinggmgaaA
namespace Go.Proofs.Ytecefhoinggmgaa
open Go.RowKit

/-- A comparison by -1, 0 and 1 that is a total order. -/
structure TO {α : Type} (f : α → α → Int) : Prop where
  rng : ∀ a b, f a b = -1 ∨ f a b = 0 ∨ f a b = 1
  anti : ∀ a b, f b a = -f a b
  zero : ∀ a b, f a b = 0 ↔ a = b
  tr : ∀ a b c, f a b ≤ 0 → f b c ≤ 0 → f a c ≤ 0

theorem TO.strict {α : Type} {f : α → α → Int} (h : TO f) (a b c : α) (h1 : f a b < 0) (h2 : f b c ≤ 0) : f a c < 0 := by
  have h3 := h.tr a b c (by omega) h2
  have h4 : f a c ≠ 0 := fun e => by
    have e' := (h.zero a c).1 e
    subst e'
    have := h.anti a b
    omega
  omega

theorem cmpI_to : TO cmpI := by
  refine ⟨fun a b => ?_, fun a b => ?_, fun a b => ?_, fun a b c h1 h2 => ?_⟩
  · unfold cmpI; repeat' split
    all_goals simp
  · unfold cmpI; repeat' split
    all_goals omega
  · unfold cmpI; repeat' split
    all_goals omega
  · unfold cmpI at *; repeat' split
    all_goals (repeat' split at h1) <;> (repeat' split at h2) <;> omega

theorem bl_irrefl : ∀ x : List UInt8, Op.bytesLess x x = false
  | [] => rfl
  | a :: x => by simp [Op.bytesLess, bl_irrefl x]
theorem bl_asymm : ∀ x y : List UInt8, Op.bytesLess x y = true → Op.bytesLess y x = false
  | _, [], h => by simp [Op.bytesLess] at h
  | [], _ :: _, _ => rfl
  | a :: x, b :: y, h => by
    simp only [Op.bytesLess, Bool.or_eq_true, decide_eq_true_eq, Bool.and_eq_true, beq_iff_eq] at h
    have hn : ∀ u v : UInt8, u < v → ¬ v < u := fun u v h1 h2 => by
      rw [UInt8.lt_iff_toNat_lt] at h1 h2; omega
    rcases h with h | ⟨rfl, h⟩
    · have e : ¬ b = a := fun e => by subst e; exact hn _ _ h h
      simp [Op.bytesLess, hn _ _ h, e]
    · simp [Op.bytesLess, bl_asymm x y h]
theorem bl_total : ∀ x y : List UInt8, Op.bytesLess x y = false → ¬ x = y → Op.bytesLess y x = true
  | [], [], _, h => absurd rfl h
  | _ :: _, [], _, _ => rfl
  | [], _ :: _, h, _ => by simp [Op.bytesLess] at h
  | a :: x, b :: y, h, hne => by
    simp only [Op.bytesLess, Bool.or_eq_false_iff, decide_eq_false_iff_not, Bool.and_eq_false_iff, beq_eq_false_iff_ne] at h
    obtain ⟨h1, h2⟩ := h
    by_cases e : a = b
    · subst e
      have hx : ¬ x = y := fun e => hne (by rw [e])
      have := bl_total x y (by rcases h2 with h2 | h2; exact absurd rfl h2; exact h2) hx
      simp [Op.bytesLess, this]
    · have : b < a := by
        rw [UInt8.lt_iff_toNat_lt] at h1 ⊢
        have : a.toNat ≠ b.toNat := fun h => e (UInt8.toNat_inj.1 h)
        omega
      simp [Op.bytesLess, this]
theorem bl_trans : ∀ x y z : List UInt8, Op.bytesLess x y = true → Op.bytesLess y z = true → Op.bytesLess x z = true
  | _, [], _, h, _ => by simp [Op.bytesLess] at h
  | _, _ :: _, [], _, h => by simp [Op.bytesLess] at h
  | [], _ :: _, _ :: _, _, _ => rfl
  | a :: x, b :: y, c :: z, h, k => by
    simp only [Op.bytesLess, Bool.or_eq_true, decide_eq_true_eq, Bool.and_eq_true, beq_iff_eq] at h k ⊢
    rcases h with h | ⟨rfl, h⟩
    · rcases k with k | ⟨rfl, k⟩
      · left; rw [UInt8.lt_iff_toNat_lt] at *; omega
      · left; exact h
    · rcases k with k | ⟨rfl, k⟩
      · left; exact k
      · right; exact ⟨rfl, bl_trans x y z h k⟩

theorem bytes_ext {a b : ByteArray} (h : a.toList = b.toList) : a = b := by
  rw [ByteArray.toList_eq, ByteArray.toList_eq] at h
  cases a; cases b
  simp only at h
  congr 1
  exact Array.toList_inj.1 h

theorem cmpS_neg {a b : ByteArray} : cmpS a b = -1 ↔ Op.bytesLess a.toList b.toList = true := by
  unfold cmpS; split
  · simp [*]
  · split <;> simp [*]
theorem cmpS_zero {a b : ByteArray} : cmpS a b = 0 ↔ a = b := by
  unfold cmpS; split
  · rename_i h
    constructor
    · intro h; omega
    · rintro rfl; rw [bl_irrefl] at h; cases h
  · split
    · rename_i h
      have := bytes_ext (by simpa using h)
      simp [this]
    · rename_i h
      constructor
      · intro h; omega
      · rintro rfl; simp at h
theorem cmpS_rng (a b : ByteArray) : cmpS a b = -1 ∨ cmpS a b = 0 ∨ cmpS a b = 1 := by
  unfold cmpS; repeat' split
  all_goals simp
theorem cmpS_anti (a b : ByteArray) : cmpS b a = -cmpS a b := by
  rcases cmpS_rng a b with h | h | h
  · have h1 := bl_asymm _ _ (cmpS_neg.1 h)
    have h2 : ¬ cmpS b a = -1 := fun e => by rw [cmpS_neg.1 e] at h1; cases h1
    have h3 : ¬ cmpS b a = 0 := fun e => by rw [cmpS_zero.1 e] at h; have := cmpS_zero (a := a) (b := a).2 rfl; omega
    have := cmpS_rng b a
    omega
  · have e := cmpS_zero.1 h; subst e; omega
  · have h1 : ¬ cmpS a b = -1 := by omega
    have h2 : ¬ a = b := fun e => by rw [cmpS_zero.2 e] at h; omega
    have h3 := bl_total a.toList b.toList (by cases hb : Op.bytesLess a.toList b.toList with | false => rfl | true => exact absurd (cmpS_neg.2 hb) h1) (fun e => h2 (bytes_ext e))
    have := cmpS_neg.2 h3
    omega
theorem cmpS_to : TO cmpS := by
  refine ⟨cmpS_rng, cmpS_anti, fun a b => cmpS_zero, fun a b c h1 h2 => ?_⟩
  rcases cmpS_rng a b with h | h | h
  · rcases cmpS_rng b c with k | k | k
    · have := cmpS_neg.2 (bl_trans _ _ _ (cmpS_neg.1 h) (cmpS_neg.1 k)); omega
    · rw [← cmpS_zero.1 k]; omega
    · omega
  · rw [cmpS_zero.1 h]; exact h2
  · omega

def lexC {α β : Type} (f : α → α → Int) (g : β → β → Int) (a b : α × β) : Int := if f a.1 b.1 = 0 then g a.2 b.2 else f a.1 b.1
theorem lex_to {α β : Type} {f : α → α → Int} {g : β → β → Int} (hf : TO f) (hg : TO g) : TO (lexC f g) := by
  refine ⟨fun a b => ?_, fun a b => ?_, fun a b => ?_, fun a b c h1 h2 => ?_⟩
  · unfold lexC; split
    · exact hg.rng _ _
    · exact hf.rng _ _
  · unfold lexC
    have h1 := hf.anti a.1 b.1
    have h2 := hg.anti a.2 b.2
    repeat' split
    all_goals omega
  · unfold lexC
    split
    · rename_i h
      rw [hg.zero, Prod.ext_iff, ← hf.zero]
      exact ⟨fun e => ⟨h, e⟩, fun e => e.2⟩
    · rename_i h
      rw [Prod.ext_iff, ← hf.zero]
      exact ⟨fun e => absurd e h, fun e => absurd e.1 h⟩
  · unfold lexC at *
    by_cases e1 : f a.1 b.1 = 0
    · rw [if_pos e1] at h1
      have e1' := (hf.zero _ _).1 e1
      rw [← e1'] at h2
      by_cases e2 : f a.1 c.1 = 0
      · rw [if_pos e2] at h2 ⊢; exact hg.tr _ _ _ h1 h2
      · rw [if_neg e2] at h2 ⊢; exact h2
    · rw [if_neg e1] at h1
      by_cases e2 : f b.1 c.1 = 0
      · have e2' := (hf.zero _ _).1 e2
        rw [← e2', if_neg e1]; exact h1
      · rw [if_neg e2] at h2
        have := hf.strict _ _ _ (show f a.1 b.1 < 0 by omega) h2
        rw [if_neg (by omega)]; omega

def cmp3 : Int × Int × ByteArray → Int × Int × ByteArray → Int := lexC cmpI (lexC cmpI cmpS)
theorem cmp3_to : TO cmp3 := lex_to cmpI_to (lex_to cmpI_to cmpS_to)
theorem cmpV_eq (ka na : Int) (sa : ByteArray) (kb nb : Int) (sb : ByteArray) : cmpV ka na sa kb nb sb = cmp3 (ka, na, sa) (kb, nb, sb) := rfl
end Go.Proofs.Ytecefhoinggmgaa
