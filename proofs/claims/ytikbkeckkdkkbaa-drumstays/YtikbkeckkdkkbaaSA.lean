/-
  A drum of the program and one of the document's, side by side; few. No condition.
-/
import Derived.Test.YtikbkeckkdkkbaaRF
import Derived.Test.YtikbkeckkdkkbaaV
namespace Go.Proofs.Ytikbkeckkdkkbaa
open Go.RowKit

/-- The program's drum dp in block b and the document's dr in block r, apart, in what F names or what is new since w0. -/
structure In (w0 : World) (F : Nat → Prop) (b r : Nat) (dp dr : D) (W : World) : Prop where
  ex : ∃ F1 F2, PAt W F1 b dp ∧ RAt W F2 r dr ∧ (∀ k, F1 k → ¬ F2 k) ∧ (∀ k, F1 k → Up F w0 W k) ∧ (∀ k, F2 k → Up F w0 W k)
  turn : Turn F w0 W
  flt : ∀ k, F k → k < w0.heap.size

theorem Up.mono {F : Nat → Prop} {w0 W w' : World} (h : W.heap.size ≤ w'.heap.size) {k : Nat} (hk : Up F w0 W k) : Up F w0 w' k := by
  rcases hk with h1 | h1
  · exact .inl h1
  · exact .inr ⟨h1.1, by omega⟩
theorem Up.far {F : Nat → Prop} {w0 W : World} {k : Nat} (hk : Up F w0 W k) : F k ∨ w0.heap.size ≤ k := hk.imp id (fun h => h.1)

theorem In.below {w0 W w' : World} {F : Nat → Prop} {b r : Nat} {dp dr : D} (h : In w0 F b r dp dr W) (hb : Below W.heap.size W w') : In w0 F b r dp dr w' := by
  obtain ⟨F1, F2, hP, hR, hd, h1, h2⟩ := h.ex
  exact ⟨⟨F1, F2, hP.below hb, hR.below hb, hd, fun k hk => (h1 k hk).mono hb.size, fun k hk => (h2 k hk).mono hb.size⟩, h.turn.trans (Turn.of_below (F := F) hb) (fun _ h => .inl h), h.flt⟩
theorem In.drew {w0 W : World} {F : Nat → Prop} {b r : Nat} {dp dr : D} (h : In w0 F b r dp dr W) : In w0 F b r dp dr W.drew := h.below ((Below.refl _ _).drew)
theorem In.stepP {w0 W w' : World} {F F1 F2 : Nat → Prop} {b r : Nat} {dp dr dp' : D} (h : In w0 F b r dp dr W) (hR : RAt W F2 r dr) (hd : ∀ k, F1 k → ¬ F2 k) (h1 : ∀ k, F1 k → Up F w0 W k) (h2 : ∀ k, F2 k → Up F w0 W k)
    (hP' : PAt w' (Up F1 W w') b dp') (hT : Turn F1 W w') : In w0 F b r dp' dr w' := by
  obtain ⟨v1, v2, hRW⟩ := hR
  refine ⟨⟨Up F1 W w', F2, hP', RAt.keep ⟨v1, v2, hRW⟩ hT (fun k hk hk' => hd k hk' hk), fun k hk hk2 => ?_, fun k hk => ?_, fun k hk => (h2 k hk).mono hT.size⟩, h.turn.trans hT (fun i hi => (h1 i hi).far), h.flt⟩
  · rcases hk with hk | hk
    · exact hd k hk hk2
    · have := hRW.lt k hk2; omega
  · rcases hk with hk | hk
    · exact (h1 k hk).mono hT.size
    · exact .inr ⟨Nat.le_trans h.turn.size hk.1, hk.2⟩
theorem In.stepR {w0 W w' : World} {F F1 F2 : Nat → Prop} {b r : Nat} {dp dr dr' : D} (h : In w0 F b r dp dr W) (hP : PAt W F1 b dp) (hd : ∀ k, F1 k → ¬ F2 k) (h1 : ∀ k, F1 k → Up F w0 W k) (h2 : ∀ k, F2 k → Up F w0 W k)
    (hR' : RAt w' (Up F2 W w') r dr') (hT : Turn F2 W w') : In w0 F b r dp dr' w' := by
  refine ⟨⟨F1, Up F2 W w', hP.keep hT hd, hR', fun k hk hk2 => ?_, fun k hk => (h1 k hk).mono hT.size, fun k hk => ?_⟩, h.turn.trans hT (fun i hi => (h2 i hi).far), h.flt⟩
  · rcases hk2 with hk2 | hk2
    · exact hd k hk hk2
    · have := hP.lt k hk; omega
  · rcases hk with hk | hk
    · exact (h2 k hk).mono hT.size
    · exact .inr ⟨Nat.le_trans h.turn.size hk.1, hk.2⟩

section
variable {w0 W : World} {F : Nat → Prop} {b r : Nat} {dp dr : D}
theorem In.write (h : In w0 F b r dp dr W) (i : Int) (s : ByteArray) (hw : dp.W.length ≤ 1000000) :
    Calls Try.prog 18 #[.pointer (some ⟨b, 0, none⟩), .int .i64 i, .string s] W fun e w' => e = .returned (.int .i64 (writeE dp i s)) ∧ In w0 F b r (writeD dp i s) dr w' := by
  obtain ⟨F1, F2, hP, hR, hd, h1, h2⟩ := h.ex
  exact (write18 hP i s hw).mono fun _ _ ⟨he, hP', hT⟩ => ⟨he, h.stepP hR hd h1 h2 hP' hT⟩
theorem In.settle (h : In w0 F b r dp dr W) (hw : dp.W.length ≤ 1000000) :
    Calls Try.prog 21 #[.pointer (some ⟨b, 0, none⟩)] W fun e w' => e = .returned (.int .i64 (settleE dp)) ∧ In w0 F b r (settleD dp) dr w' := by
  obtain ⟨F1, F2, hP, hR, hd, h1, h2⟩ := h.ex
  exact (settle21 hP hw).mono fun _ _ ⟨he, hP', hT⟩ => ⟨he, h.stepP hR hd h1 h2 (hP'.up W) hT⟩
theorem In.arm (h : In w0 F b r dp dr W) (n : Int) (hn : n ≤ 9223372036854775807) :
    Calls Try.prog 23 #[.pointer (some ⟨b, 0, none⟩), .int .i64 n] W fun e w' => e = .returned (.int .i64 (armE dp n)) ∧ In w0 F b r (armD dp n) dr w' := by
  obtain ⟨F1, F2, hP, hR, hd, h1, h2⟩ := h.ex
  exact (arm23 hP n hn).mono fun _ _ ⟨he, hP', hT, _⟩ => ⟨he, h.stepP hR hd h1 h2 (hP'.up W) hT⟩
theorem In.crash (h : In w0 F b r dp dr W) (hw : dp.W.length ≤ 1000000) (l : List Int) (lv : Value) (hl : IntsAt W W.heap.size lv l) (hll : l.length ≤ 1000000) :
    Calls Try.prog 16 #[.pointer (some ⟨b, 0, none⟩), lv] W fun e w' => e = .returned (.int .i64 0) ∧ In w0 F b r (crashD dp l) dr w' := by
  obtain ⟨F1, F2, hP, hR, hd, h1, h2⟩ := h.ex
  exact (crash16 hP hw l lv hl hll).mono fun _ _ ⟨he, hP', hT⟩ => ⟨he, h.stepP hR hd h1 h2 (hP'.up W) hT⟩
theorem In.refWrite (h : In w0 F b r dp dr W) (i : Int) (s : ByteArray) (hw : dr.W.length ≤ 1000000) :
    Calls Try.prog 30 #[.pointer (some ⟨r, 0, none⟩), .int .i64 i, .string s] W fun e w' => e = .returned (.int .i64 (writeE dr i s)) ∧ In w0 F b r dp (writeD dr i s) w' := by
  obtain ⟨F1, F2, hP, hR, hd, h1, h2⟩ := h.ex
  exact (refWrite30 hR i s hw).mono fun _ _ ⟨he, hR', hT⟩ => ⟨he, h.stepR hP hd h1 h2 hR' hT⟩
theorem In.refSettle (h : In w0 F b r dp dr W) (hw : dr.W.length ≤ 1000000) :
    Calls Try.prog 27 #[.pointer (some ⟨r, 0, none⟩)] W fun e w' => e = .returned (.int .i64 (settleE dr)) ∧ In w0 F b r dp (settleD dr) w' := by
  obtain ⟨F1, F2, hP, hR, hd, h1, h2⟩ := h.ex
  exact (refSettle27 hR hw).mono fun _ _ ⟨he, hR', hT⟩ => ⟨he, h.stepR hP hd h1 h2 (hR'.up W) hT⟩
theorem In.refArm (h : In w0 F b r dp dr W) (n : Int) (hn : n ≤ 9223372036854775807) :
    Calls Try.prog 29 #[.pointer (some ⟨r, 0, none⟩), .int .i64 n] W fun e w' => e = .returned (.int .i64 (armE dr n)) ∧ In w0 F b r dp (armD dr n) w' := by
  obtain ⟨F1, F2, hP, hR, hd, h1, h2⟩ := h.ex
  exact (refArm29 hR n hn).mono fun _ _ ⟨he, hR', hT, _⟩ => ⟨he, h.stepR hP hd h1 h2 (hR'.up W) hT⟩
theorem In.refCrash (h : In w0 F b r dp dr W) (hw : dr.W.length ≤ 1000000) (B : Nat) (hB : B ≤ w0.heap.size) (hF : ∀ k, F k → B ≤ k) (l : List Int) (lv : Value) (hl : IntsAt W B lv l) (hll : l.length ≤ 1000000) :
    Calls Try.prog 28 #[.pointer (some ⟨r, 0, none⟩), lv] W fun e w' => e = .returned (.tuple #[]) ∧ In w0 F b r dp (crashD dr l) w' := by
  obtain ⟨F1, F2, hP, hR, hd, h1, h2⟩ := h.ex
  exact (refCrash28 hR hw B (Nat.le_trans hB h.turn.size) (fun k hk => by rcases h2 k hk with h3 | h3; exact hF k h3; exact Nat.le_trans hB h3.1) l lv hl hll).mono fun _ _ ⟨he, hR', hT⟩ => ⟨he, h.stepR hP hd h1 h2 (hR'.up W) hT⟩
end

/-- Both drums hold d, in what F names. -/
def Both (w : World) (F : Nat → Prop) (b r : Nat) (d : D) : Prop := In w F b r d d w
theorem In.both {w0 W : World} {F : Nat → Prop} {b r : Nat} {d : D} (h : In w0 F b r d d W) : Both W (Up F w0 W) b r d ∧ Turn F w0 W := by
  obtain ⟨F1, F2, hP, hR, hd, h1, h2⟩ := h.ex
  refine ⟨⟨⟨F1, F2, hP, hR, hd, fun k hk => .inl (h1 k hk), fun k hk => .inl (h2 k hk)⟩, Turn.refl _ _, fun k hk => ?_⟩, h.turn⟩
  rcases hk with hk | hk
  · exact Nat.lt_of_lt_of_le (h.flt k hk) h.turn.size
  · exact hk.2
theorem Both.keep {w w' : World} {F G : Nat → Prop} {b r : Nat} {d : D} (h : Both w F b r d) (hT : Turn G w w') (hd : ∀ k, F k → ¬ G k) : Both w' F b r d := by
  obtain ⟨F1, F2, hP, hR, hdd, h1, h2⟩ := h.ex
  have hf : ∀ k, Up F w w k → F k := fun k hk => by rcases hk with hk | hk; exact hk; omega
  exact ⟨⟨F1, F2, hP.keep hT (fun k hk => hd k (hf k (h1 k hk))), hR.keep hT (fun k hk => hd k (hf k (h2 k hk))), hdd, fun k hk => .inl (hf k (h1 k hk)), fun k hk => .inl (hf k (h2 k hk))⟩, Turn.refl _ _, fun k hk => Nat.lt_of_lt_of_le (h.flt k hk) hT.size⟩
theorem Both.below {w w' : World} {F : Nat → Prop} {b r : Nat} {d : D} (h : Both w F b r d) (hb : Below w.heap.size w w') : Both w' F b r d :=
  h.keep (G := fun _ => False) (Turn.of_below hb) (fun _ _ h => h)

/-! ### few -/
def fewB (L : List Ac) : Bool := decide (L.length ≤ 150) && L.all fun a => decide (a.s.size ≤ 200) && decide (a.keep.length ≤ 200)
theorem fewB_iff {L : List Ac} : fewB L = true ↔ L.length ≤ 150 ∧ ∀ a ∈ L, a.s.size ≤ 200 ∧ a.keep.length ≤ 200 := by
  unfold fewB
  rw [Bool.and_eq_true, decide_eq_true_eq, List.all_eq_true]
  simp

set_option maxRecDepth 100000 in
set_option maxHeartbeats 1000000 in
theorem few7 (L : List Ac) (v : Value) (w : World) (B : Nat) (hL : AcsAt w B v L) :
    Calls Try.prog 7 #[v] w fun e w' => e = .returned (.bool (fewB L)) ∧ w = w' := by
  obtain ⟨ans, hans⟩ : ∃ ans, fewB L = ans := ⟨_, rfl⟩
  rw [hans]
  have HANS := Lib.hid hans
  have HL := Lib.hid hL
  obtain ⟨a, c, rfl, -⟩ := hL
  clear hans
  obtain ⟨n, hn⟩ : ∃ n, L.length = n := ⟨_, rfl⟩
  have HN := Lib.hid hn
  rw [hn]
  by_cases h150 : 150 < n
  · have t : decide ((150 : Int) < (n : Int)) = true := by simp; omega
    have e : ans = false := by
      rw [← HANS.out]
      cases hh : fewB L with
      | false => rfl
      | true => have := (fewB_iff.1 hh).1; omega
    subst e
    clear hn
    go_enter Try.func7, Try.ntmps7
    go_wp2
    go_ret
    exact ⟨rfl, rfl⟩
  · have t : decide ((150 : Int) < (n : Int)) = false := by simp; omega
    clear hn
    go_enter Try.func7, Try.ntmps7
    go_wp2
    go_loop [3] (fun s3 => ∃ k : Nat, k ≤ n ∧ s3 = .int .i64 k ∧ Hid (∀ j (h : j < L.length), j < k → L[j].s.size ≤ 200 ∧ L[j].keep.length ≤ 200)) (fun s3 => n - (intOf s3).toNat)
    case atStart => exact ⟨0, by omega, rfl, fun j _ h => by omega⟩
    case round =>
      obtain ⟨k, hk, rfl, HK⟩ := hrel
      by_cases hlt : k < n
      · have hk' : k < L.length := by rw [HN.out]; exact hlt
        obtain ⟨a', c', hv, hcells⟩ := HL.out
        injection hv with e1 e2 e3
        subst e1
        obtain ⟨bb, oo, rfl, -, hc⟩ := hcells (by omega)
        have hat := hc k hk'
        have c2 := hat.c2
        have c3 := hat.c3
        obtain ⟨ka, kc, hkv, -⟩ := hat.ints
        rw [hkv] at c3
        have HBAD : Hid (¬ (L[k].s.size ≤ 200 ∧ L[k].keep.length ≤ 200) → ans = false) := by
          intro hh
          rw [← HANS.out]
          cases hf : fewB L with
          | false => rfl
          | true => exact absurd ((fewB_iff.1 hf).2 _ (List.getElem_mem hk')) hh
        have HNX : Hid (L[k].s.size ≤ 200 ∧ L[k].keep.length ≤ 200 → ∀ j (h : j < L.length), j < k + 1 → L[j].s.size ≤ 200 ∧ L[j].keep.length ≤ 200) := by
          intro hh j hj hjk
          by_cases e : j = k
          · subst e; exact hh
          · exact HK.out j hj (by omega)
        generalize L[k].s = s at c2 HBAD HNX
        generalize L[k].keep.length = kl at c3 HBAD HNX
        clear hat hc hcells e2 e3 hk' hkv HK
        by_cases hs : s.size ≤ 200
        · have t1 : decide ((200 : Int) < (s.size : Int)) = false := by simp; omega
          by_cases hkl : kl ≤ 200
          · have t2 : decide ((200 : Int) < (kl : Int)) = false := by simp; omega
            have HN2 := Lib.hid (HNX.out ⟨hs, hkl⟩)
            clear HNX HBAD
            go_wp2
            go_round
            case rel => exact ⟨k + 1, by omega, by go_num, HN2⟩
            case measure => simp [intOf]; omega
          · have t2 : decide ((200 : Int) < (kl : Int)) = true := by simp; omega
            have e : ans = false := HBAD.out (by omega)
            subst e
            clear HNX HBAD
            go_wp2
            go_ret
            exact ⟨rfl, rfl⟩
        · have t1 : decide ((200 : Int) < (s.size : Int)) = true := by simp; omega
          have e : ans = false := HBAD.out (by omega)
          subst e
          clear HNX HBAD
          go_wp2
          go_ret
          exact ⟨rfl, rfl⟩
      · have e : ans = true := by
          rw [← HANS.out, fewB_iff]
          refine ⟨by rw [HN.out]; omega, fun a ha => ?_⟩
          obtain ⟨j, hj, rfl⟩ := List.getElem_of_mem ha
          exact HK.out j hj (by rw [HN.out] at hj; omega)
        subst e
        go_wp2
        go_ret
        exact ⟨rfl, rfl⟩
end Go.Proofs.Ytikbkeckkdkkbaa
