import Derived.Test.YtapfhonapejpjaaRD
import Derived.Test.YtapfhonapejpjaaBack
namespace Go.Proofs.Ytapfhonapejpjaa
open Go.RowKit

theorem written_high {b : UInt8} (h : 128 ≤ b.toNat) : writtenB b = [b] := by
  have n1 : ¬ (b = 34 ∨ b = 92) := by rintro (rfl | rfl) <;> simp at h
  have n2 : ¬ b = 10 := by rintro rfl; simp at h
  have n3 : ¬ (b.toNat < 32 ∨ b = 127) := by
    rintro (q | rfl)
    · omega
    · simp at h
  rw [writtenB, if_neg n1, if_neg n2, if_neg n3]

theorem ofNat_inj {a : Nat} {n : Nat} (ha : a < 256) (hn : n < 256) : UInt8.ofNat a = UInt8.ofNat n ↔ a = n := by
  constructor
  · intro h
    have := congrArg UInt8.toNat h
    rw [ofNat_toNat a ha, ofNat_toNat n hn] at this
    exact this
  · rintro rfl; rfl

theorem written_ascii {c : Nat} (h : c < 128) : writtenB (UInt8.ofNat c) = pointText c := by
  have e := ofNat_toNat c (by omega)
  have q1 : (UInt8.ofNat c = 34 ∨ UInt8.ofNat c = 92) ↔ (c = 34 ∨ c = 92) := by
    rw [show (34 : UInt8) = UInt8.ofNat 34 from rfl, show (92 : UInt8) = UInt8.ofNat 92 from rfl, ofNat_inj (by omega) (by omega), ofNat_inj (by omega) (by omega)]
  have q2 : UInt8.ofNat c = 10 ↔ c = 10 := by rw [show (10 : UInt8) = UInt8.ofNat 10 from rfl, ofNat_inj (by omega) (by omega)]
  have q3 : UInt8.ofNat c = 127 ↔ c = 127 := by rw [show (127 : UInt8) = UInt8.ofNat 127 from rfl, ofNat_inj (by omega) (by omega)]
  unfold writtenB pointText
  by_cases h1 : c = 34 ∨ c = 92
  · rw [if_pos (q1.2 h1), if_pos (show (c : Int) = 34 ∨ (c : Int) = 92 by omega), Int.toNat_natCast]
  rw [if_neg (fun z => h1 (q1.1 z)), if_neg (show ¬ ((c : Int) = 34 ∨ (c : Int) = 92) by omega)]
  by_cases h2 : c = 10
  · rw [if_pos (q2.2 h2), if_pos (show (c : Int) = 10 by omega)]
  rw [if_neg (fun z => h2 (q2.1 z)), if_neg (show ¬ (c : Int) = 10 by omega), e]
  obtain ⟨e1, e2⟩ := nibs (c := c) (by omega)
  rw [e1, e2]
  by_cases h3 : c < 32 ∨ c = 127
  · have hc : isCtl (c : Int) = true := by simp only [isCtl, Bool.or_eq_true, decide_eq_true_eq, beq_iff_eq]; omega
    rw [if_pos (show c < 32 ∨ UInt8.ofNat c = 127 by rcases h3 with q | q; exact .inl q; exact .inr (q3.2 q)), if_pos hc]
  · have hc : isCtl (c : Int) = false := by
      cases hq : isCtl (c : Int) with
      | false => rfl
      | true => exfalso; simp only [isCtl, Bool.or_eq_true, decide_eq_true_eq, beq_iff_eq] at hq; omega
    have hv := asc_valid (c := c) h
    rw [if_neg (show ¬ (c < 32 ∨ UInt8.ofNat c = 127) by rintro (q | q); exact h3 (.inl q); exact h3 (.inr (q3.1 q))), hc, if_neg (by simp), enc_encB hv, encB_1 h]

theorem written_encB {c : Nat} (hv : Utf8.valid (c : Int) = true) : (encB c).flatMap writtenB = pointText c := by
  by_cases h1 : c < 128
  · rw [encB_1 h1, List.flatMap_cons, List.flatMap_nil, List.append_nil, written_ascii h1]
  · have hp : pointText c = encB c := by
      have hc : isCtl (c : Int) = false := by
        cases hq : isCtl (c : Int) with
        | false => rfl
        | true => exact absurd (ctl_lt hq) h1
      unfold pointText
      rw [if_neg (show ¬ ((c : Int) = 34 ∨ (c : Int) = 92) by omega), if_neg (show ¬ (c : Int) = 10 by omega), hc, if_neg (by simp), enc_encB hv]
    have hi : ∀ (l : List UInt8), (∀ b ∈ l, 128 ≤ b.toNat) → l.flatMap writtenB = l := by
      intro l
      induction l with
      | nil => intro _; rfl
      | cons b l ih =>
        intro hl
        rw [List.flatMap_cons, written_high (hl b (by simp)), ih (fun x hx => hl x (by simp [hx]))]; rfl
    rw [hp]
    apply hi
    have hvc := hv
    rw [valid_iff, decide_eq_true_eq] at hvc
    intro b hb
    by_cases h2 : c < 2048
    · rw [encB_2 h1 h2] at hb
      simp only [List.mem_cons, List.not_mem_nil, or_false] at hb
      rcases hb with rfl | rfl
      · rw [ofNat_toNat _ (by omega)]; omega
      · rw [ofNat_toNat _ (by omega)]; omega
    · by_cases h3 : c < 65536
      · rw [encB_3 h2 h3] at hb
        simp only [List.mem_cons, List.not_mem_nil, or_false] at hb
        rcases hb with rfl | rfl | rfl
        · rw [ofNat_toNat _ (by omega)]; omega
        · rw [ofNat_toNat _ (by omega)]; omega
        · rw [ofNat_toNat _ (by omega)]; omega
      · rw [encB_4 h3] at hb
        simp only [List.mem_cons, List.not_mem_nil, or_false] at hb
        rcases hb with rfl | rfl | rfl | rfl
        · rw [ofNat_toNat _ (by omega)]; omega
        · rw [ofNat_toNat _ (by omega)]; omega
        · rw [ofNat_toNat _ (by omega)]; omega
        · rw [ofNat_toNat _ (by omega)]; omega

theorem written_encs : ∀ (cps : List Nat), allV cps → (encs cps).flatMap writtenB = encs (cps.flatMap ptC)
  | [], _ => rfl
  | c :: cs, hv => by
    have hc := hv c (by simp)
    rw [encs_cons, List.flatMap_append, written_encB hc, written_encs cs (fun x hx => hv x (by simp [hx])), List.flatMap_cons, encs_append, encs_ptC hc]

theorem quote_eq (l : List UInt8) : quoteR l = if runesR l < 0 then ([], 2) else (34 :: l.flatMap writtenB ++ [34], 0) := by
  by_cases h : runesR l < 0
  · rw [if_pos h]
    unfold quoteR
    cases hq : runL quoteStep l.length 0 l [34] with
    | inl p => rfl
    | inr x =>
      obtain ⟨cps, hv, hl, _⟩ := steps_of_run quoteStep _ 0 l [34] x (Nat.le_refl _) hq
      rw [hl, runes_encs hv] at h
      omega
  · rw [if_neg h]
    obtain ⟨cps, hv, hl⟩ := runes_back (show 0 ≤ runesR l by omega)
    rw [hl, quote_encs hv, written_encs cps hv]

set_option maxHeartbeats 400000 in
theorem refQuote13 (s : ByteArray) (w : World) (hs : s.size ≤ 5000) :
    Calls Try.prog 13 #[.string s] w fun e w' => e = .returned (.tuple #[.string ⟨(quoteR s.data.toList).1.toArray⟩, .int .i64 (quoteR s.data.toList).2]) ∧ Below w.heap.size w w' := by
  have hr := refRunes19 s w hs
  rw [quote_eq]
  by_cases h : runesR s.data.toList < 0
  · rw [if_pos h]
    generalize runesR s.data.toList = ru at hr h
    have HR := Lib.hid hr; clear hr
    go_enter Try.func13, Try.ntmps13
    go_wp2_with (go_at_call 19; go_must (refine HR.out.mono ?_); rintro e w' ⟨rfl, rfl⟩)
    go_ret2
    exact ⟨rfl, Below.refl _ _⟩
  · rw [if_neg h]
    have hq := quoted25 s w hs
    generalize runesR s.data.toList = ru at hr h
    generalize (34 :: s.data.toList.flatMap writtenB ++ [34]) = q at hq ⊢
    have HR := Lib.hid hr; clear hr
    have HQ := Lib.hid hq; clear hq
    go_enter Try.func13, Try.ntmps13
    go_wp2_with (first | (go_at_call 19; go_must (refine HR.out.mono ?_); rintro e w' ⟨rfl, rfl⟩) | (go_at_call 25; go_must (refine HQ.out.mono ?_); rintro e w' ⟨rfl, hb⟩))
    go_ret2
    exact ⟨rfl, hb⟩

set_option maxHeartbeats 800000 in
theorem refText11 (k n : Int) (s : ByteArray) (w : World) (h0 : -9223372036854775808 ≤ n) (h1 : n < 9223372036854775808) :
    Calls Try.prog 11 #[.agg #[.int .i64 k, .int .i64 n, .string s]] w fun e w' => e = .returned (.tuple #[.string ⟨(textR k n s).1.toArray⟩, .int .i64 (textR k n s).2]) ∧ Below w.heap.size w w' := by
  have hb0 : Below w.heap.size w (w.alloc (.cells #[.int .i64 k, .int .i64 n, .string s] 24)) := (Below.refl _ _).alloc (Nat.le_refl _) _
  have hr := right23 k n s (w.alloc (.cells #[.int .i64 k, .int .i64 n, .string s] 24))
  have hV := V1.new w k n s
  cases hv : validV k n s with
  | false =>
    have hA : Hid (textR k n s = ([], 2)) := by simp [Hid, textR, hv]
    rw [hA.out]
    rw [hv] at hr
    have HR := Lib.hid hr; clear hr hv
    go_enter Try.func11, Try.ntmps11
    go_wp2_with (go_at_call 23; go_must (refine HR.out.mono ?_); rintro e w1 ⟨rfl, hb1⟩)
    go_ret2
    exact ⟨rfl, below_next hb0 hb1⟩
  | true =>
    rw [hv] at hr
    have HR := Lib.hid hr; clear hr
    by_cases k1 : k = 1
    · have hA : Hid (textR k n s = (intText n, 0)) := by rw [Hid, textR, if_pos hv, if_neg (by omega)]
      rw [hA.out]
      have HD := Lib.hid (fun w => digits24 n.natAbs n w rfl h0 h1)
      generalize intText n = it at HD ⊢
      have b1 : (k == 1) = true := by simpa using k1
      clear hv k1 hA
      go_enter Try.func11, Try.ntmps11
      go_wp2_with fail
      refine HR.out.mono ?_
      rintro e w1 ⟨rfl, hb1⟩
      replace hb0 := below_next hb0 hb1
      replace hV := hV.step hb1
      obtain ⟨c0, c1, c2⟩ := id hV
      clear hb1
      go_wp2_with (go_at_call 24; go_must (refine (HD.out _).mono ?_); rintro e w2 ⟨rfl, hb2⟩)
      go_ret2
      exact ⟨rfl, below_next hb0 hb2⟩
    · have hk2 : k = 2 := by rcases validV_cases hv with ⟨q, _⟩ | ⟨q, _⟩; exact absurd q k1; exact q
      have hsz : s.size ≤ 40 := by rcases validV_cases hv with ⟨q, _⟩ | ⟨_, _, q, _⟩; exact absurd q k1; exact q
      have hru : 0 ≤ runesR s.data.toList := by rcases validV_cases hv with ⟨q, _⟩ | ⟨_, _, _, q⟩; exact absurd q k1; exact q
      have hA : Hid (textR k n s = (34 :: s.data.toList.flatMap writtenB ++ [34], 0)) := by rw [Hid, textR, if_pos hv, if_pos hk2, quote_eq, if_neg (by omega)]
      rw [hA.out]
      have HD := Lib.hid (fun w => quoted25 s w (by omega))
      generalize (34 :: s.data.toList.flatMap writtenB ++ [34]) = q at HD ⊢
      have b1 : (k == 1) = false := by simpa using k1
      clear hv k1 hA hk2 hru
      go_enter Try.func11, Try.ntmps11
      go_wp2_with fail
      refine HR.out.mono ?_
      rintro e w1 ⟨rfl, hb1⟩
      replace hb0 := below_next hb0 hb1
      replace hV := hV.step hb1
      obtain ⟨c0, c1, c2⟩ := id hV
      clear hb1
      go_wp2_with (go_at_call 25; go_must (refine (HD.out _).mono ?_); rintro e w2 ⟨rfl, hb2⟩)
      go_ret2
      exact ⟨rfl, below_next hb0 hb2⟩
end Go.Proofs.Ytapfhonapejpjaa
