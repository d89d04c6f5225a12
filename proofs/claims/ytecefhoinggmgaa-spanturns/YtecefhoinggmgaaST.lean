/-
  Contracts of span.isValueOrNone and span.arePieces. No condition.
-/
import Derived.Test.YtecefhoinggmgaaSC
namespace Go.Proofs.Ytecefhoinggmgaa
open Go.RowKit

def mayB (v : Vl) : Bool := decide (v = vz) || valOK v
def pcOK (E : Int) (p : Pc) : Bool := !decide (p.1 < E) && (isSpanB p.1 p.2.1 && (!decide (p.2.2.1 = p.2.2.2) && (mayB p.2.2.1 && mayB p.2.2.2)))
def pcsFrom : Int → List Pc → Bool
  | _, [] => true
  | E, p :: d => pcOK E p && pcsFrom p.2.1 d
def pcsOK (d : List Pc) : Bool := pcsFrom 0 d

set_option maxHeartbeats 400000 in
theorem or51 (v : Vl) (w : World) : Calls Try.prog 51 #[valV v] w fun e w' => e = .returned (.bool (mayB v)) ∧ Below w.heap.size w w' := by
  have HV := Lib.hid (check28 v)
  obtain ⟨q, hq⟩ : ∃ q, decide (v = vz) = q := ⟨_, rfl⟩
  have heq := eqlVl v (0, 0, ⟨#[]⟩) q hq
  have HM : Hid (mayB v = (q || valOK v)) := by unfold Hid mayB; rw [hq]
  rw [HM.out]
  obtain ⟨k, n, s⟩ := v
  unfold valV at HV heq ⊢
  simp only at HV heq ⊢
  have hb0 : Below w.heap.size w (w.alloc (.cells #[.int .i64 k, .int .i64 n, .string s] 25)) := (Below.refl _ _).alloc (Nat.le_refl _) _
  have HB0 := Lib.hid hb0
  clear hb0 hq HM
  obtain ⟨q2, hq2⟩ : ∃ q2, valOK (k, n, s) = q2 := ⟨_, rfl⟩
  rw [hq2] at HV ⊢
  clear hq2
  cases q with
  | true =>
    go_enter Try.func51, Try.ntmps51
    go_wp2
    go_ret
    exact ⟨rfl, HB0.out⟩
  | false =>
    go_enter Try.func51, Try.ntmps51
    go_wp2_with fail
    refine (HV.out _).mono ?_
    rintro e' w1 ⟨rfl, hb1⟩
    have HB1 := Lib.hid (HB0.out.trans (hb1.mono (by simp)))
    clear hb1
    cases q2 with
    | true =>
      go_wp2
      go_ret
      exact ⟨rfl, HB1.out⟩
    | false =>
      go_wp2
      go_ret
      exact ⟨rfl, HB1.out⟩

/-- A piece in a block of its own, and what lay. -/
structure LocP (w : World) (p : Pc) (w' : World) : Prop where
  r : PcAt w' w.heap.size 0 p
  lt : w.heap.size < w'.heap.size
  below : Below w.heap.size w w'
theorem LocP.start (w : World) (f e hk hn : Int) (hs : ByteArray) (nk nn : Int) (ns : ByteArray) : LocP w (f, e, (hk, hn, hs), (nk, nn, ns)) (w.alloc (.cells #[.int .i64 f, .int .i64 e, .int .i64 hk, .int .i64 hn, .string hs, .int .i64 nk, .int .i64 nn, .string ns] 44)) :=
  ⟨⟨by simp [go_sem], by simp [go_sem], by simp [go_sem], by simp [go_sem], by simp [go_sem], by simp [go_sem], by simp [go_sem], by simp [go_sem]⟩, by simp, (Below.refl _ _).alloc (Nat.le_refl _) _⟩
theorem LocP.step {w : World} {p : Pc} {w1 w2 : World} (h : LocP w p w1) (hb : Below w1.heap.size w1 w2) : LocP w p w2 :=
  ⟨h.r.keep fun o => hb.cell (p := ⟨w.heap.size, o, none⟩) h.lt, Nat.lt_of_lt_of_le h.lt hb.size, h.below.trans (hb.mono (Nat.le_of_lt h.lt))⟩

set_option maxHeartbeats 800000 in
theorem arePieces40 (d : List Pc) (v : Value) (w : World) (h : PcsAt w w.heap.size v d) :
    Calls Try.prog 40 #[v] w fun e w' => e = .returned (.bool (pcsOK d)) ∧ Below w.heap.size w w' := by
  obtain ⟨A, cap, rfl, h1, h2, h3⟩ := h
  unfold maxLen at h2
  obtain ⟨q, hq⟩ : ∃ q, pcsOK d = q := ⟨_, rfl⟩
  rw [hq]
  have HQ := Lib.hid hq
  clear hq
  go_enter Try.func40, Try.ntmps40
  go_wp2
  go_loopw [3, 8] (fun en i wr => ∃ (k : Nat) (E : Int), k ≤ d.length ∧ i = .int .i64 k ∧ en = .int .i64 E ∧ Hid (Below w.heap.size w wr) ∧ Hid (pcsFrom E (d.drop k) = q)) (fun _ i _ => d.length - (intOf i).toNat)
  case atStart => exact ⟨0, 0, Nat.zero_le _, rfl, rfl, Below.refl _ _, HQ⟩
  case round =>
    obtain ⟨k, E, hk, rfl, rfl, HBW, HK⟩ := hrel
    by_cases hlt : k < d.length
    · obtain ⟨b, o, rfl, hb, hr⟩ := h3 (by omega)
      have hd := drop_get d k hlt
      have hrk := (hr k hlt).keep fun o => HBW.out.cell (p := ⟨b, o, none⟩) hb
      generalize d[k] = p at hd hrk
      obtain ⟨f, e, ⟨hk', hn, hs⟩, ⟨nk, nn, ns⟩⟩ := p
      obtain ⟨c0, c1, c2, c3, c4, c5, c6, c7⟩ := hrk
      simp only at c0 c1 c2 c3 c4 c5 c6 c7
      have HD := Lib.hid hd
      have hbl : b < wr.heap.size := Nat.lt_of_lt_of_le hb HBW.out.size
      clear hd h3 hr
      have HS := Lib.hid (isSpan38 f e)
      have HV1 := Lib.hid (or51 (hk', hn, hs))
      have HV2 := Lib.hid (or51 (nk, nn, ns))
      unfold valV at HV1 HV2
      simp only at HV1 HV2
      have HPO : Hid (pcOK E (f, e, (hk', hn, hs), (nk, nn, ns)) = (!decide (f < E) && (isSpanB f e && (!decide (((hk', hn, hs) : Vl) = (nk, nn, ns)) && (mayB (hk', hn, hs) && mayB (nk, nn, ns)))))) := rfl
      have HL := Lib.hid (LocP.start wr f e hk' hn hs nk nn ns)
      obtain ⟨q3, hq3⟩ : ∃ q3, decide (((hk', hn, hs) : Vl) = (nk, nn, ns)) = q3 := ⟨_, rfl⟩
      have heq := eqlVl (hk', hn, hs) (nk, nn, ns) q3 hq3
      unfold valV at heq
      simp only at heq
      rw [hq3] at HPO
      generalize isSpanB f e = q1 at HS HPO
      generalize mayB (hk', hn, hs) = q4 at HV1 HPO
      generalize mayB (nk, nn, ns) = q5 at HV2 HPO
      clear hq3 HQ
      have HBE := Lib.hid fun (W : World) (h : LocP wr (f, e, (hk', hn, hs), (nk, nn, ns)) W) => (HBW.out.trans (h.below.mono HBW.out.size))
      by_cases hfe : f < E
      · have hq : q = false := by rw [← HK.out, HD.out, pcsFrom, HPO.out, decide_eq_true hfe]; rfl
        subst hq
        have HB1 := Lib.hid (HBE.out _ HL.out)
        go_wp2
        go_ret
        exact ⟨rfl, HB1.out⟩
      · rw [decide_eq_false hfe] at HPO
        go_wp2_with fail
        refine (HS.out _).mono ?_
        rintro e' w' ⟨rfl, rfl⟩
        cases q1 with
        | false =>
          have hq : q = false := by rw [← HK.out, HD.out, pcsFrom, HPO.out]; rfl
          subst hq
          have HB1 := Lib.hid (HBE.out _ HL.out)
          go_wp2
          go_ret
          exact ⟨rfl, HB1.out⟩
        | true =>
          cases q3 with
          | true =>
            have hq : q = false := by rw [← HK.out, HD.out, pcsFrom, HPO.out]; rfl
            subst hq
            have HB1 := Lib.hid (HBE.out _ HL.out)
            go_wp2
            go_ret
            exact ⟨rfl, HB1.out⟩
          | false =>
            go_wp2_with fail
            refine (HV1.out _).mono ?_
            rintro e' w1 ⟨rfl, hb1⟩
            replace HL : Hid (LocP wr (f, e, (hk', hn, hs), (nk, nn, ns)) w1) := HL.out.step hb1
            clear hb1 c0 c1 c2 c3 c4 c5 c6 c7
            obtain ⟨c0, c1, c2, c3, c4, c5, c6, c7⟩ := HL.out.r
            have hwl : wr.heap.size < w1.heap.size := HL.out.lt
            simp only [Nat.zero_add] at c0 c1 c2 c3 c4 c5 c6 c7
            cases q4 with
            | false =>
              have hq : q = false := by rw [← HK.out, HD.out, pcsFrom, HPO.out]; rfl
              subst hq
              have HB1 := Lib.hid (HBE.out _ HL.out)
              go_wp2
              go_ret
              exact ⟨rfl, HB1.out⟩
            | true =>
              go_wp2_with fail
              refine (HV2.out _).mono ?_
              rintro e' w2 ⟨rfl, hb2⟩
              replace HL : Hid (LocP wr (f, e, (hk', hn, hs), (nk, nn, ns)) w2) := HL.out.step hb2
              clear hb2 c0 c1 c2 c3 c4 c5 c6 c7
              obtain ⟨c0, c1, c2, c3, c4, c5, c6, c7⟩ := HL.out.r
              simp only [Nat.zero_add] at c0 c1 c2 c3 c4 c5 c6 c7
              have HB1 := Lib.hid (HBE.out _ HL.out)
              cases q5 with
              | false =>
                have hq : q = false := by rw [← HK.out, HD.out, pcsFrom, HPO.out]; rfl
                subst hq
                go_wp2
                go_ret
                exact ⟨rfl, HB1.out⟩
              | true =>
                have HN : Hid (pcsFrom e (d.drop (k + 1)) = q) := by unfold Hid; rw [← HK.out, HD.out, pcsFrom, HPO.out]; rfl
                clear HK HD HPO HL HBE
                go_wp2
                go_roundw
                case rel => exact ⟨k + 1, e, by omega, by go_num, rfl, HB1, HN⟩
                case measure => simp [intOf]; omega
    · have hq : q = true := by
        rw [← HK.out, List.drop_of_length_le (by omega)]; rfl
      subst hq
      go_wp2
      go_ret
      exact ⟨rfl, HBW.out⟩
end Go.Proofs.Ytecefhoinggmgaa
