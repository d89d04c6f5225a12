import Derived.Test.YtecefhoinggmgaaF
namespace Go.Proofs.Ytecefhoinggmgaa
open Go.RowKit

/-- The code point that stands at a text's head, and how many bytes it has; none: none stands there. -/
def dec4 (l : List UInt8) : Option (Nat × Nat) :=
  match l with
  | [] => none
  | b0 :: t =>
    if b0.toNat < 128 then some (b0.toNat, 1)
    else if b0.toNat / 32 = 6 then
      match t with
      | b1 :: _ => if b1.toNat / 64 = 2 ∧ 128 ≤ b0.toNat % 32 * 64 + b1.toNat % 64 then some (b0.toNat % 32 * 64 + b1.toNat % 64, 2) else none
      | _ => none
    else if b0.toNat / 16 = 14 then
      match t with
      | b1 :: b2 :: _ => if b1.toNat / 64 = 2 ∧ b2.toNat / 64 = 2 ∧ 2048 ≤ b0.toNat % 16 * 4096 + b1.toNat % 64 * 64 + b2.toNat % 64 ∧ ¬ (55296 ≤ b0.toNat % 16 * 4096 + b1.toNat % 64 * 64 + b2.toNat % 64 ∧ b0.toNat % 16 * 4096 + b1.toNat % 64 * 64 + b2.toNat % 64 < 57344) then some (b0.toNat % 16 * 4096 + b1.toNat % 64 * 64 + b2.toNat % 64, 3) else none
      | _ => none
    else if b0.toNat / 8 = 30 then
      match t with
      | b1 :: b2 :: b3 :: _ => if b1.toNat / 64 = 2 ∧ b2.toNat / 64 = 2 ∧ b3.toNat / 64 = 2 ∧ 65536 ≤ b0.toNat % 8 * 262144 + b1.toNat % 64 * 4096 + b2.toNat % 64 * 64 + b3.toNat % 64 ∧ b0.toNat % 8 * 262144 + b1.toNat % 64 * 4096 + b2.toNat % 64 * 64 + b3.toNat % 64 ≤ 1114111 then some (b0.toNat % 8 * 262144 + b1.toNat % 64 * 4096 + b2.toNat % 64 * 64 + b3.toNat % 64, 4) else none
      | _ => none
    else none

theorem u8_eq {a : UInt8} {n : Nat} (h : a.toNat = n) (hn : n < 256) : a = UInt8.ofNat n := by
  apply UInt8.toNat_inj.1; rw [h, UInt8.toNat_ofNat']; omega

/-- What decode reads: the byte at a place, or 0. -/
def byteAt (l : List UInt8) (k : Nat) : Nat := (l.getD k default).toNat

theorem decL_eq (l : List UInt8) : decL l =
    (if byteAt l 0 < 0x80 then (byteAt l 0, 1)
    else if byteAt l 0 / 32 == 6 && (decide (1 < l.length) && byteAt l 1 / 64 == 2) then
      (if byteAt l 0 % 32 * 64 + byteAt l 1 % 64 ≥ 0x80 then (byteAt l 0 % 32 * 64 + byteAt l 1 % 64, 2) else (65533, 1))
    else if byteAt l 0 / 16 == 14 && (decide (1 < l.length) && byteAt l 1 / 64 == 2) && (decide (2 < l.length) && byteAt l 2 / 64 == 2) then
      (if byteAt l 0 % 16 * 4096 + byteAt l 1 % 64 * 64 + byteAt l 2 % 64 ≥ 0x800 && Utf8.valid ((byteAt l 0 % 16 * 4096 + byteAt l 1 % 64 * 64 + byteAt l 2 % 64 : Nat) : Int) then (byteAt l 0 % 16 * 4096 + byteAt l 1 % 64 * 64 + byteAt l 2 % 64, 3) else (65533, 1))
    else if byteAt l 0 / 8 == 30 && (decide (1 < l.length) && byteAt l 1 / 64 == 2) && (decide (2 < l.length) && byteAt l 2 / 64 == 2) && (decide (3 < l.length) && byteAt l 3 / 64 == 2) then
      (if byteAt l 0 % 8 * 262144 + byteAt l 1 % 64 * 4096 + byteAt l 2 % 64 * 64 + byteAt l 3 % 64 ≥ 0x10000 && Utf8.valid ((byteAt l 0 % 8 * 262144 + byteAt l 1 % 64 * 4096 + byteAt l 2 % 64 * 64 + byteAt l 3 % 64 : Nat) : Int) then (byteAt l 0 % 8 * 262144 + byteAt l 1 % 64 * 4096 + byteAt l 2 % 64 * 64 + byteAt l 3 % 64, 4) else (65533, 1))
    else (65533, 1)) := by
  unfold decL Utf8.decode
  simp only [get!_list, size_list, Nat.zero_add]
  rfl

theorem byteAt_lt (l : List UInt8) (k : Nat) : byteAt l k < 256 := (l.getD k default).toNat_lt

theorem valid_iff (n : Nat) : Utf8.valid (n : Int) = decide (n < 55296 ∨ (57344 ≤ n ∧ n ≤ 1114111)) := by
  rw [validRune_eq, validRune, decide_eq_decide]; omega

theorem byteAt0 (b : UInt8) (t : List UInt8) : byteAt (b :: t) 0 = b.toNat := rfl
theorem byteAt1 (a b : UInt8) (t : List UInt8) : byteAt (a :: b :: t) 1 = b.toNat := rfl
theorem byteAt2 (a b c : UInt8) (t : List UInt8) : byteAt (a :: b :: c :: t) 2 = c.toNat := rfl
theorem byteAt3 (a b c d : UInt8) (t : List UInt8) : byteAt (a :: b :: c :: d :: t) 3 = d.toNat := rfl

theorem dec4_some {l : List UInt8} {c d : Nat} (h : dec4 l = some (c, d)) : decL l = (c, d) ∧ badL l = false := by
  have key : decL l = (c, d) := by
    rw [decL_eq]
    unfold dec4 at h
    split at h
    · cases h
    · rename_i b0 t
      rw [byteAt0]
      split at h
      · rename_i h0; cases h; rw [if_pos h0]
      · rename_i h0
        rw [if_neg (by omega)]
        split at h
        · rename_i h1
          split at h
          · rename_i b1 t
            split at h
            · rename_i h2
              cases h
              rw [byteAt1, if_pos (by simp [h1, h2.1]), if_pos h2.2]
            · cases h
          · cases h
        · rename_i h1
          rw [if_neg (by simp [h1])]
          split at h
          · rename_i h2
            split at h
            · rename_i b1 b2 t
              split at h
              · rename_i h3
                cases h
                rw [byteAt1, byteAt2, if_pos (by simp [h2, h3.1, h3.2.1]), if_pos]
                have hb := b0.toNat_lt
                simp only [valid_iff, Bool.and_eq_true, decide_eq_true_eq]
                omega
              · cases h
            · cases h
          · rename_i h2
            rw [if_neg (by simp [h2])]
            split at h
            · rename_i h3
              split at h
              · rename_i b1 b2 b3 t
                split at h
                · rename_i h4
                  cases h
                  rw [byteAt1, byteAt2, byteAt3, if_pos (by simp [h3, h4.1, h4.2.1, h4.2.2.1]), if_pos]
                  simp only [valid_iff, Bool.and_eq_true, decide_eq_true_eq]
                  omega
                · cases h
              · cases h
            · cases h
  refine ⟨key, ?_⟩
  unfold badL
  rw [key]
  by_cases hc : c = 65533
  · subst hc
    -- it stands there as its own three bytes
    have h3 : l.take 3 = [239, 191, 189] := by
      unfold dec4 at h
      split at h
      · cases h
      · rename_i b0 t
        have hb := b0.toNat_lt
        split at h
        · simp only [Option.some.injEq, Prod.mk.injEq] at h; omega
        · split at h
          · split at h
            · split at h
              · simp only [Option.some.injEq, Prod.mk.injEq] at h; omega
              · cases h
            · cases h
          · split at h
            · split at h
              · rename_i b1 b2 t
                split at h
                · simp only [Option.some.injEq, Prod.mk.injEq] at h
                  have e0 : b0 = 239 := u8_eq (n := 239) (by omega) (by omega)
                  have e1 : b1 = 191 := u8_eq (n := 191) (by omega) (by omega)
                  have e2 : b2 = 189 := u8_eq (n := 189) (by omega) (by omega)
                  rw [e0, e1, e2]; rfl
                · cases h
              · cases h
            · split at h
              · split at h
                · split at h
                  · simp only [Option.some.injEq, Prod.mk.injEq] at h; omega
                  · cases h
                · cases h
              · cases h
    rw [h3]; rfl
  · simp [hc]

theorem dec4_none {l : List UInt8} (hl : l ≠ []) (h : dec4 l = none) : badL l = true := by
  have hne : ¬ l.take 3 = [239, 191, 189] := by
    intro e
    match l, hl, e with
    | b0 :: b1 :: b2 :: t, _, e =>
      simp only [List.take_succ_cons, List.take_zero, List.cons.injEq, and_true] at e
      obtain ⟨rfl, rfl, rfl⟩ := e
      simp [dec4] at h
  have key : (decL l).1 = 65533 := by
    rw [decL_eq]
    unfold dec4 at h
    split at h
    · exact absurd rfl hl
    · rename_i b0 t
      rw [byteAt0]
      split at h
      · cases h
      · rename_i h0
        rw [if_neg (by omega)]
        split at h
        · rename_i h1
          have n2 : ¬ b0.toNat / 16 = 14 := by omega
          have n3 : ¬ b0.toNat / 8 = 30 := by omega
          split at h
          · rename_i b1 t
            split at h
            · cases h
            · rename_i h2
              rw [byteAt1]
              split
              · rename_i h3
                simp [h1] at h3
                rw [if_neg (by omega)]
              · rw [if_neg (by simp [n2]), if_neg (by simp [n3])]
          · rename_i hx
            have : t = [] := by cases t with | nil => rfl | cons a u => exact absurd rfl (hx a u)
            subst this
            rw [if_neg (by simp), if_neg (by simp), if_neg (by simp)]
        · rename_i h1
          rw [if_neg (by simp [h1])]
          split at h
          · rename_i h2
            have n3 : ¬ b0.toNat / 8 = 30 := by omega
            split at h
            · rename_i b1 b2 t
              split at h
              · cases h
              · rename_i h3
                rw [byteAt1, byteAt2]
                split
                · rename_i h4
                  simp [h2] at h4
                  rw [if_neg]
                  simp only [valid_iff, Bool.and_eq_true, decide_eq_true_eq]
                  have := b0.toNat_lt
                  omega
                · rw [if_neg (by simp [n3])]
            · rename_i hx
              have hlen : ¬ 2 < (b0 :: t).length := by
                match t, hx with
                | [], _ => simp
                | [_], _ => simp
                | a :: b :: u, hx => exact absurd rfl (hx a b u)
              rw [if_neg (by simp only [hlen]; simp), if_neg (by simp only [hlen]; simp)]
          · rename_i h2
            rw [if_neg (by simp [h2])]
            split at h
            · rename_i h3
              split at h
              · rename_i b1 b2 b3 t
                split at h
                · cases h
                · rename_i h4
                  rw [byteAt1, byteAt2, byteAt3]
                  split
                  · rename_i h5
                    simp [h3] at h5
                    rw [if_neg]
                    simp only [valid_iff, Bool.and_eq_true, decide_eq_true_eq]
                    omega
                  · rfl
              · rename_i hx
                have hlen : ¬ 3 < (b0 :: t).length := by
                  match t, hx with
                  | [], _ => simp
                  | [_], _ => simp
                  | [_, _], _ => simp
                  | a :: b :: c :: u, hx => exact absurd rfl (hx a b c u)
                rw [if_neg (by simp only [hlen]; simp)]
            · rename_i h3
              rw [if_neg (by simp [h3])]
  unfold badL
  rw [key]
  simp [hne]
end Go.Proofs.Ytecefhoinggmgaa
