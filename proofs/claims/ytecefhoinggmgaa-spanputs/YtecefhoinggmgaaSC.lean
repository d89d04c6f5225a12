/-
  Contracts of span.Check and of the document's Right and Check. No condition.
-/
import Derived.Test.YtecefhoinggmgaaSB
import Derived.Test.YtecefhoinggmgaaRC
import Derived.Deep.RegionHeld3
import Derived.IntWalk
namespace Go.Proofs.Ytecefhoinggmgaa
open Go.RowKit

def valOK (v : Vl) : Bool := validV v.1 v.2.1 v.2.2
def rowOK (r : Row) : Bool := isSpanB r.1 r.2.1 && valOK r.2.2
def nextOK (p r : Row) : Bool := !decide (r.1 < p.2.1) && !contB p r
def okFrom : Option Row → List Row → Bool
  | _, [] => true
  | none, r :: l => rowOK r && okFrom (some r) l
  | some p, r :: l => rowOK r && (nextOK p r && okFrom (some r) l)
def rowsOK (l : List Row) : Bool := decide (l.length ≤ 64) && okFrom none l

def prevAt (l : List Row) (k : Nat) : Option Row := if k = 0 then none else l[k - 1]?

theorem check28 (v : Vl) (w : World) : Calls Try.prog 28 #[valV v] w fun e w' => e = .returned (.int .i64 (if valOK v then 0 else 2)) ∧ Below w.heap.size w w' :=
  check14 v.1 v.2.1 v.2.2 w
theorem right31 (v : Vl) (w : World) : Calls Try.prog 31 #[valV v] w fun e w' => e = .returned (.bool (valOK v)) ∧ Below w.heap.size w w' :=
  right23 v.1 v.2.1 v.2.2 w

/-- A row in a block of its own, and what lay. -/
structure Loc (w : World) (r : Row) (w' : World) : Prop where
  r : RowAt w' w.heap.size 0 r
  lt : w.heap.size < w'.heap.size
  below : Below w.heap.size w w'
theorem Loc.start (w : World) (f e k n : Int) (s : ByteArray) : Loc w (f, e, k, n, s) (w.alloc (.cells #[.int .i64 f, .int .i64 e, .int .i64 k, .int .i64 n, .string s] 52)) :=
  ⟨⟨by simp [go_sem], by simp [go_sem], by simp [go_sem], by simp [go_sem], by simp [go_sem]⟩, by simp, (Below.refl _ _).alloc (Nat.le_refl _) _⟩
theorem Loc.step {w : World} {r : Row} {w1 w2 : World} (h : Loc w r w1) (hb : Below w1.heap.size w1 w2) : Loc w r w2 :=
  ⟨h.r.below hb h.lt, Nat.lt_of_lt_of_le h.lt hb.size, h.below.trans (hb.mono (Nat.le_of_lt h.lt))⟩

/-- Two rows, one behind the other in the list, one in a block of its own. -/
structure Duo (w : World) (b o : Nat) (p : Row) (c : Nat) (r : Row) (w' : World) : Prop where
  p : RowAt w' b o p
  r : RowAt w' c 0 r
  hb : b < w'.heap.size
  hc : c < w'.heap.size
  below : Below w.heap.size w w'
theorem Duo.drew {w : World} {b o : Nat} {p : Row} {c : Nat} {r : Row} {w' : World} (h : Duo w b o p c r w') : Duo w b o p c r w'.drew := ⟨h.p.keep fun _ => rfl, h.r.keep fun _ => rfl, h.hb, h.hc, h.below.drew⟩
theorem Duo.step {w : World} {b o : Nat} {p : Row} {c : Nat} {r : Row} {w1 w2 : World} (h : Duo w b o p c r w1) (hb : Below w1.heap.size w1 w2) : Duo w b o p c r w2 :=
  ⟨h.p.below hb h.hb, h.r.below hb h.hc, Nat.lt_of_lt_of_le h.hb hb.size, Nat.lt_of_lt_of_le h.hc hb.size, h.below.trans (hb.mono h.below.size)⟩
theorem SD {w : World} {b o : Nat} {pf pe pk pn : Int} {ps : ByteArray} {c : Nat} {f e k n : Int} {s : ByteArray} {w' : World} (h : Duo w b o (pf, pe, pk, pn, ps) c (f, e, k, n, s) w') :
    w'.cell? ⟨b, o, none⟩ = some (.int .i64 pf) ∧ w'.cell? ⟨b, o + 1, none⟩ = some (.int .i64 pe) ∧ w'.cell? ⟨b, o + 2, none⟩ = some (.int .i64 pk) ∧ w'.cell? ⟨b, o + 3, none⟩ = some (.int .i64 pn) ∧ w'.cell? ⟨b, o + 4, none⟩ = some (.string ps) ∧
      w'.cell? ⟨c, 0, none⟩ = some (.int .i64 f) ∧ w'.cell? ⟨c, 1, none⟩ = some (.int .i64 e) ∧ w'.cell? ⟨c, 2, none⟩ = some (.int .i64 k) ∧ w'.cell? ⟨c, 3, none⟩ = some (.int .i64 n) ∧ w'.cell? ⟨c, 4, none⟩ = some (.string s) ∧ Duo w b o (pf, pe, pk, pn, ps) c (f, e, k, n, s) w' :=
  ⟨h.p.c0, h.p.c1, h.p.c2, h.p.c3, h.p.c4, by simpa using h.r.c0, by simpa using h.r.c1, by simpa using h.r.c2, by simpa using h.r.c3, by simpa using h.r.c4, h⟩

set_option maxHeartbeats 800000 in
theorem check18 (l : List Row) (v : Value) (w : World) (h : RowsAt w w.heap.size v l) :
    Calls Try.prog 18 #[v] w fun e w' => e = .returned (.int .i64 (if rowsOK l then 0 else 2)) ∧ Below w.heap.size w w' := by
  obtain ⟨A, cap, rfl, h1, h2, h3⟩ := h
  unfold maxLen at h2
  by_cases h64 : (64 : Int) < l.length
  · have hA : Hid ((if rowsOK l then (0 : Int) else 2) = 2) := by unfold Hid rowsOK; rw [decide_eq_false (by omega)]; rfl
    rw [hA.out]
    go_enter Try.func18, Try.ntmps18
    go_wp2
    go_ret
    exact ⟨rfl, Below.refl _ _⟩
  · obtain ⟨q, hq⟩ : ∃ q, rowsOK l = q := ⟨_, rfl⟩
    rw [hq]
    have HQ : Hid (okFrom none l = q) := by unfold Hid; rw [← hq]; unfold rowsOK; rw [decide_eq_true (by omega)]; rfl
    clear hq
    obtain ⟨ans, hans⟩ : ∃ ans : Int, (if q then (0 : Int) else 2) = ans := ⟨_, rfl⟩
    rw [hans]
    have HANS := Lib.hid hans
    clear hans
    go_enter Try.func18, Try.ntmps18
    go_wp2
    go_loopw [10] (fun i wr => ∃ k : Nat, k ≤ l.length ∧ i = .int .i64 k ∧ Below w.heap.size w wr ∧ Hid (okFrom (prevAt l k) (l.drop k) = q)) (fun i _ => l.length - (intOf i).toNat)
    case atStart => exact ⟨0, Nat.zero_le _, rfl, Below.refl _ _, HQ⟩
    case round =>
      obtain ⟨k, hk, rfl, hbw, HK⟩ := hrel
      by_cases hlt : k < l.length
      · obtain ⟨b, o, rfl, hb, hr⟩ := h3 (by omega)
        have hd := drop_get l k hlt
        have hrk := (hr k hlt).below hbw hb
        generalize l[k] = r at hd hrk
        have HR := Lib.hid hr
        obtain ⟨f, e, kk, n, s⟩ := r
        obtain ⟨c0, c1, c2, c3, c4⟩ := hrk
        simp only at c0 c1 c2 c3 c4
        have HD := Lib.hid hd
        have hbl : b < wr.heap.size := Nat.lt_of_lt_of_le hb hbw.size
        clear hd h3 hr
        have HS := Lib.hid (isSpan38 f e)
        have HV := Lib.hid (check28 (kk, n, s))
        have HOK : Hid (rowOK (f, e, kk, n, s) = (isSpanB f e && valOK (kk, n, s))) := rfl
        have HL := Lib.hid (Loc.start wr f e kk n s)
        unfold valV at HV
        simp only at HV
        generalize isSpanB f e = q1 at HS HOK
        generalize valOK (kk, n, s) = q2 at HV HOK
        go_wp2_with fail
        refine (HS.out _).mono ?_
        rintro e' w' ⟨rfl, rfl⟩
        cases q1 with
        | false =>
          have hq : q = false := by
            rw [← HK.out, HD.out]
            cases prevAt l k <;> simp [okFrom, HOK.out]
          subst hq
          have hans : ans = 2 := HANS.out.symm
          subst hans
          clear HQ HK HANS HS HV HOK HD HR
          have HB : Hid (Below w.heap.size w _) := hbw.trans (HL.out.below.mono hbw.size)
          go_wp2
          go_ret
          exact ⟨rfl, HB.out⟩
        | true =>
          go_wp2_with fail
          refine (HV.out _).mono ?_
          rintro e' w' ⟨rfl, hb1⟩
          replace HL : Hid (Loc wr (f, e, kk, n, s) w') := HL.out.step hb1
          clear hb1
          cases q2 with
          | false =>
            have hq : q = false := by
              rw [← HK.out, HD.out]
              cases prevAt l k <;> simp [okFrom, HOK.out]
            subst hq
            have hans : ans = 2 := HANS.out.symm
            subst hans
            clear HQ HK HANS HS HV HOK HD HR
            have HB : Hid (Below w.heap.size w w') := hbw.trans (HL.out.below.mono hbw.size)
            go_wp2
            go_ret
            exact ⟨rfl, HB.out⟩
          | true =>
            clear HS HV
            have hrow : rowOK (f, e, kk, n, s) = true := HOK.out
            have HROW := Lib.hid hrow
            clear HOK hrow
            by_cases hk0 : k = 0
            · subst hk0
              have HN : Hid (okFrom (prevAt l 1) (l.drop 1) = q) := by
                unfold Hid
                have hp : prevAt l 1 = some (f, e, kk, n, s) := by
                  have := HD.out
                  rw [List.drop_zero] at this
                  unfold prevAt
                  rw [this]; rfl
                rw [← HK.out, HD.out, hp]
                show _ = okFrom none _
                rw [okFrom, HROW.out]; rfl
              clear HQ HK HD HROW HR
              have HB : Hid (Below w.heap.size w w') := hbw.trans (HL.out.below.mono hbw.size)
              clear hbw
              go_wp2_with fail
              go_quiet (fail)
              go_wp2
              exact ⟨⟨1, by omega, rfl, below_drewN HB.out _, HN⟩, by simp [intOf]; omega⟩
            · obtain ⟨j, rfl⟩ : ∃ j, k = j + 1 := ⟨k - 1, by omega⟩
              have hp := (HR.out j (by omega)).below (hbw.trans (HL.out.below.mono hbw.size)) hb
              have hpv : prevAt l (j + 1) = some l[j] := by
                unfold prevAt
                rw [if_neg (by omega)]
                exact List.getElem?_eq_getElem (by omega)
              generalize l[j] = p at hp hpv
              obtain ⟨pf, pe, pk, pn, ps⟩ := p
              have HN : Hid ((nextOK (pf, pe, pk, pn, ps) (f, e, kk, n, s) && okFrom (prevAt l (j + 1 + 1)) (l.drop (j + 1 + 1))) = q) := by
                unfold Hid
                have hp : prevAt l (j + 1 + 1) = some (f, e, kk, n, s) := by
                  have := HD.out
                  unfold prevAt
                  rw [if_neg (by omega)]
                  have e0 : l[j + 1 + 1 - 1]? = (l.drop (j + 1))[0]? := by rw [List.getElem?_drop]; rfl
                  rw [e0, this]; rfl
                rw [← HK.out, HD.out, hpv, hp, okFrom, HROW.out]; rfl
              clear HQ HK HD HROW HR hpv
              have HB : Hid (Below w.heap.size w w') := hbw.trans (HL.out.below.mono hbw.size)
              have hlo := HL.out.r
              have hbw' : b < w'.heap.size := Nat.lt_of_lt_of_le hbl HL.out.below.size
              have hwl : wr.heap.size < w'.heap.size := HL.out.lt
              have hD : Duo w b (o + j * 5) (pf, pe, pk, pn, ps) wr.heap.size (f, e, kk, n, s) w' := ⟨hp, hlo, hbw', hwl, HB.out⟩
              have HDU := Lib.hid hD
              clear hD
              obtain ⟨p0, p1, p2, p3, p4⟩ := hp
              obtain ⟨l0, l1, l2, l3, l4⟩ := hlo
              simp only [Nat.zero_add] at p0 p1 p2 p3 p4 l0 l1 l2 l3 l4
              clear hbw c0 c1 c2 c3 c4 HL
              cases hlt' : decide (f < pe) with
              | true =>
                have hq : q = false := by
                  rw [← HN.out, nextOK]
                  simp only
                  rw [hlt']; rfl
                subst hq
                have hans : ans = 2 := HANS.out.symm
                subst hans
                clear HN HANS
                go_wp2_with fail
                go_quiet (fail)
                go_wp2
                go_ret
                exact ⟨rfl, below_drewN HB.out _⟩
              | false =>
                have HC := Lib.hid (continues39 (pf, pe, pk, pn, ps) (f, e, kk, n, s))
                have HN2 : Hid ((!contB (pf, pe, pk, pn, ps) (f, e, kk, n, s) && okFrom (prevAt l (j + 1 + 1)) (l.drop (j + 1 + 1))) = q) := by
                  unfold Hid
                  rw [← HN.out, nextOK]
                  simp only
                  rw [hlt']; rfl
                clear HN
                unfold rowV at HC
                simp only at HC
                generalize contB (pf, pe, pk, pn, ps) (f, e, kk, n, s) = q3 at HC HN2
                cases q3 with
                | true =>
                  have hq : q = false := HN2.out.symm
                  subst hq
                  have hans : ans = 2 := HANS.out.symm
                  subst hans
                  clear HN2 HANS
                  go_wp2_with fail
                  have hD := HDU.out
                  have hi0 : (0 : Int) ≤ (j : Int) := by omega
                  have hi1 : (j : Int) < (l.length : Int) := by omega
                  have hi2 : (j : Int) + 1 - 1 = (j : Int) := by omega
                  have hi3 : IntKind.i64.wrap (j : Int) = (j : Int) := IntWalk.i64_in _ (by omega)
                  clear HDU
                  go_region_held3 (fun w'' => w''.cell? ⟨b, o + j * 5, none⟩ = some (.int .i64 pf) ∧ w''.cell? ⟨b, o + j * 5 + 1, none⟩ = some (.int .i64 pe) ∧ w''.cell? ⟨b, o + j * 5 + 2, none⟩ = some (.int .i64 pk) ∧ w''.cell? ⟨b, o + j * 5 + 3, none⟩ = some (.int .i64 pn) ∧ w''.cell? ⟨b, o + j * 5 + 4, none⟩ = some (.string ps) ∧
                    w''.cell? ⟨wr.heap.size, 0, none⟩ = some (.int .i64 f) ∧ w''.cell? ⟨wr.heap.size, 1, none⟩ = some (.int .i64 e) ∧ w''.cell? ⟨wr.heap.size, 2, none⟩ = some (.int .i64 kk) ∧ w''.cell? ⟨wr.heap.size, 3, none⟩ = some (.int .i64 n) ∧ w''.cell? ⟨wr.heap.size, 4, none⟩ = some (.string s) ∧ Duo w b (o + j * 5) (pf, pe, pk, pn, ps) wr.heap.size (f, e, kk, n, s) w'')
                    ((apply SD; repeat (first | exact hD.drew | refine Duo.step ?_ (by assumption))))
                    (first | (go_at_call 39; refine (HC.out _).mono ?_; rintro e' w3 ⟨rfl, hbb⟩))
                  rename_i hHeld
                  obtain ⟨-, -, -, -, -, -, -, -, -, -, hD'⟩ := hHeld
                  have HB' := Lib.hid hD'.below
                  clear hD hD' p0 p1 p2 p3 p4 l0 l1 l2 l3 l4 HC HB
                  go_wp2
                  go_ret
                  exact ⟨rfl, HB'.out⟩
                | false =>
                  replace HN2 : Hid (okFrom (prevAt l (j + 1 + 1)) (l.drop (j + 1 + 1)) = q) := HN2.out
                  go_wp2_with fail
                  have hD := HDU.out
                  have hi0 : (0 : Int) ≤ (j : Int) := by omega
                  have hi1 : (j : Int) < (l.length : Int) := by omega
                  have hi2 : (j : Int) + 1 - 1 = (j : Int) := by omega
                  have hi3 : IntKind.i64.wrap (j : Int) = (j : Int) := IntWalk.i64_in _ (by omega)
                  clear HDU
                  go_region_held3 (fun w'' => w''.cell? ⟨b, o + j * 5, none⟩ = some (.int .i64 pf) ∧ w''.cell? ⟨b, o + j * 5 + 1, none⟩ = some (.int .i64 pe) ∧ w''.cell? ⟨b, o + j * 5 + 2, none⟩ = some (.int .i64 pk) ∧ w''.cell? ⟨b, o + j * 5 + 3, none⟩ = some (.int .i64 pn) ∧ w''.cell? ⟨b, o + j * 5 + 4, none⟩ = some (.string ps) ∧
                    w''.cell? ⟨wr.heap.size, 0, none⟩ = some (.int .i64 f) ∧ w''.cell? ⟨wr.heap.size, 1, none⟩ = some (.int .i64 e) ∧ w''.cell? ⟨wr.heap.size, 2, none⟩ = some (.int .i64 kk) ∧ w''.cell? ⟨wr.heap.size, 3, none⟩ = some (.int .i64 n) ∧ w''.cell? ⟨wr.heap.size, 4, none⟩ = some (.string s) ∧ Duo w b (o + j * 5) (pf, pe, pk, pn, ps) wr.heap.size (f, e, kk, n, s) w'')
                    ((apply SD; repeat (first | exact hD.drew | refine Duo.step ?_ (by assumption))))
                    (first | (go_at_call 39; refine (HC.out _).mono ?_; rintro e' w3 ⟨rfl, hbb⟩))
                  rename_i hHeld
                  obtain ⟨-, -, -, -, -, -, -, -, -, -, hD'⟩ := hHeld
                  have HB' := Lib.hid hD'.below
                  clear hD hD' p0 p1 p2 p3 p4 l0 l1 l2 l3 l4 HC HB
                  go_wp2
                  go_roundw
                  case rel => exact ⟨j + 1 + 1, by omega, by go_num, HB'.out, HN2⟩
                  case measure => simp [intOf]; omega
      · have hq : q = true := by
          rw [← HK.out, List.drop_of_length_le (by omega)]
          cases prevAt l k <;> rfl
        subst hq
        have hans : ans = 0 := HANS.out.symm
        subst hans
        clear HQ HK HANS
        go_wp2
        go_ret
        exact ⟨rfl, hbw⟩

theorem quietW {P : Program} {f : FuncId} {args : Array Value} {w : World} {d : Nat} {v : Value} (h : Calls P f args (w.drewN d) fun e w' => e = .returned v ∧ w.drewN d = w') :
    Calls P f args (w.drewN d) fun e w2 => e = .returned v ∧ ∃ m, w2 = w.drewN m := h.mono fun _ _ hh => ⟨hh.1, d, hh.2.symm⟩

structure One (w : World) (b o : Nat) (r : Row) (w' : World) : Prop where
  r : RowAt w' b o r
  hb : b < w'.heap.size
  below : Below w.heap.size w w'
theorem One.drew {w : World} {b o : Nat} {r : Row} {w' : World} (h : One w b o r w') : One w b o r w'.drew := ⟨h.r.keep fun _ => rfl, h.hb, h.below.drew⟩
theorem One.step {w : World} {b o : Nat} {r : Row} {w1 w2 : World} (h : One w b o r w1) (hb : Below w1.heap.size w1 w2) : One w b o r w2 :=
  ⟨h.r.below hb h.hb, Nat.lt_of_lt_of_le h.hb hb.size, h.below.trans (hb.mono h.below.size)⟩
theorem SO {w : World} {b o : Nat} {f e k n : Int} {s : ByteArray} {w' : World} (h : One w b o (f, e, k, n, s) w') :
    w'.cell? ⟨b, o, none⟩ = some (.int .i64 f) ∧ w'.cell? ⟨b, o + 1, none⟩ = some (.int .i64 e) ∧ w'.cell? ⟨b, o + 2, none⟩ = some (.int .i64 k) ∧ w'.cell? ⟨b, o + 3, none⟩ = some (.int .i64 n) ∧ w'.cell? ⟨b, o + 4, none⟩ = some (.string s) ∧ One w b o (f, e, k, n, s) w' :=
  ⟨h.r.c0, h.r.c1, h.r.c2, h.r.c3, h.r.c4, h⟩

set_option maxHeartbeats 1000000 in
theorem right30 (l : List Row) (v : Value) (w : World) (h : RowsAt w w.heap.size v l) :
    Calls Try.prog 30 #[v] w fun e w' => e = .returned (.bool (rowsOK l)) ∧ Below w.heap.size w w' := by
  obtain ⟨A, cap, rfl, h1, h2, h3⟩ := h
  unfold maxLen at h2
  by_cases h64 : (64 : Int) < l.length
  · have hA : Hid (rowsOK l = false) := by unfold Hid rowsOK; rw [decide_eq_false (by omega)]; rfl
    rw [hA.out]
    go_enter Try.func30, Try.ntmps30
    go_wp2
    go_ret
    exact ⟨rfl, Below.refl _ _⟩
  · obtain ⟨q, hq⟩ : ∃ q, rowsOK l = q := ⟨_, rfl⟩
    rw [hq]
    have HQ : Hid (okFrom none l = q) := by unfold Hid; rw [← hq]; unfold rowsOK; rw [decide_eq_true (by omega)]; rfl
    clear hq
    go_enter Try.func30, Try.ntmps30
    go_wp2
    go_loopw [3] (fun i wr => ∃ k : Nat, k ≤ l.length ∧ i = .int .i64 k ∧ Below w.heap.size w wr ∧ Hid (okFrom (prevAt l k) (l.drop k) = q)) (fun i _ => l.length - (intOf i).toNat)
    case atStart => exact ⟨0, Nat.zero_le _, rfl, Below.refl _ _, HQ⟩
    case round =>
      obtain ⟨k, hk, rfl, hbw, HK⟩ := hrel
      by_cases hlt : k < l.length
      · obtain ⟨b, o, rfl, hb, hr⟩ := h3 (by omega)
        have hd := drop_get l k hlt
        have hrk := (hr k hlt).below hbw hb
        generalize l[k] = r at hd hrk
        have HR := Lib.hid hr
        obtain ⟨f, e, kk, n, s⟩ := r
        have HD := Lib.hid hd
        have hbl : b < wr.heap.size := Nat.lt_of_lt_of_le hb hbw.size
        clear hd h3 hr
        have HS := Lib.hid (span32 f e)
        have HV := Lib.hid (right31 (kk, n, s))
        have HOK : Hid (rowOK (f, e, kk, n, s) = (isSpanB f e && valOK (kk, n, s))) := rfl
        have hD : One w b (o + k * 5) (f, e, kk, n, s) wr := ⟨hrk, hbl, hbw⟩
        obtain ⟨c0, c1, c2, c3, c4⟩ := hrk
        simp only at c0 c1 c2 c3 c4
        unfold valV at HV
        simp only at HV
        generalize isSpanB f e = q1 at HS HOK
        generalize valOK (kk, n, s) = q2 at HV HOK
        have hi0 : (0 : Int) ≤ (k : Int) := by omega
        have hi1 : (k : Int) < (l.length : Int) := by omega
        cases q1 with
        | false =>
          have hq : q = false := by
            rw [← HK.out, HD.out]
            cases prevAt l k <;> simp [okFrom, HOK.out]
          subst hq
          clear HQ HK HV HOK HD HR hD
          go_wp2_with fail
          go_quiet ((go_at_call 32; exact quietW (HS.out _)))
          go_wp2
          go_ret
          exact ⟨rfl, below_drewN hbw _⟩
        | true =>
          cases q2 with
          | false =>
            have hq : q = false := by
              rw [← HK.out, HD.out]
              cases prevAt l k <;> simp [okFrom, HOK.out]
            subst hq
            clear HQ HK HOK HD HR
            go_wp2_with fail
            go_region_held3 (fun w'' => w''.cell? ⟨b, o + k * 5, none⟩ = some (.int .i64 f) ∧ w''.cell? ⟨b, o + k * 5 + 1, none⟩ = some (.int .i64 e) ∧ w''.cell? ⟨b, o + k * 5 + 2, none⟩ = some (.int .i64 kk) ∧ w''.cell? ⟨b, o + k * 5 + 3, none⟩ = some (.int .i64 n) ∧ w''.cell? ⟨b, o + k * 5 + 4, none⟩ = some (.string s) ∧ One w b (o + k * 5) (f, e, kk, n, s) w'')
              ((apply SO; repeat (first | exact hD.drew | refine One.step ?_ (by assumption))))
              (first | (go_at_call 32; refine (HS.out _).mono ?_; rintro e' w3 ⟨rfl, rfl⟩) | (go_at_call 31; refine (HV.out _).mono ?_; rintro e' w3 ⟨rfl, hbb⟩))
            rename_i hHeld
            obtain ⟨-, -, -, -, -, hD'⟩ := hHeld
            have HB' := Lib.hid hD'.below
            clear hD hD' c0 c1 c2 c3 c4
            go_wp2
            go_ret
            exact ⟨rfl, HB'.out⟩
          | true =>
            have hrow : rowOK (f, e, kk, n, s) = true := HOK.out
            have HROW := Lib.hid hrow
            clear HOK hrow
            have HBW := Lib.hid hbw
            clear hbw
            replace hD : One wr b (o + k * 5) (f, e, kk, n, s) wr := ⟨hD.r, hbl, Below.refl _ _⟩
            go_wp2_with fail
            go_region_held3 (fun w'' => w''.cell? ⟨b, o + k * 5, none⟩ = some (.int .i64 f) ∧ w''.cell? ⟨b, o + k * 5 + 1, none⟩ = some (.int .i64 e) ∧ w''.cell? ⟨b, o + k * 5 + 2, none⟩ = some (.int .i64 kk) ∧ w''.cell? ⟨b, o + k * 5 + 3, none⟩ = some (.int .i64 n) ∧ w''.cell? ⟨b, o + k * 5 + 4, none⟩ = some (.string s) ∧ One wr b (o + k * 5) (f, e, kk, n, s) w'')
              ((apply SO; repeat (first | exact hD.drew | refine One.step ?_ (by assumption))))
              (first | (go_at_call 32; refine (HS.out _).mono ?_; rintro e' w3 ⟨rfl, rfl⟩) | (go_at_call 31; refine (HV.out _).mono ?_; rintro e' w3 ⟨rfl, hbb⟩))
            rename_i hHeld
            obtain ⟨-, -, -, -, -, hD'⟩ := hHeld
            have HB' : Hid (Below w.heap.size w _) := HBW.out.trans (hD'.below.mono HBW.out.size)
            have HBK := Lib.hid hD'.below
            have HRK := Lib.hid hD'.r
            clear hD hD' c0 c1 c2 c3 c4 HS HV
            by_cases hk0 : k = 0
            · subst hk0
              have HN : Hid (okFrom (prevAt l 1) (l.drop 1) = q) := by
                unfold Hid
                have hp : prevAt l 1 = some (f, e, kk, n, s) := by
                  have := HD.out
                  rw [List.drop_zero] at this
                  unfold prevAt
                  rw [this]; rfl
                rw [← HK.out, HD.out, hp]
                show _ = okFrom none _
                rw [okFrom, HROW.out]; rfl
              clear HQ HK HD HROW HR HBK HBW HRK
              go_wp2_with fail
              go_quiet (fail)
              go_wp2
              exact ⟨⟨1, by omega, rfl, below_drewN HB'.out _, HN⟩, by simp [intOf]; omega⟩
            · obtain ⟨j, rfl⟩ : ∃ j, k = j + 1 := ⟨k - 1, by omega⟩
              have hpr := ((HR.out j (by omega)).below HBW.out hb).below HBK.out hbl
              have hpv : prevAt l (j + 1) = some l[j] := by
                unfold prevAt
                rw [if_neg (by omega)]
                exact List.getElem?_eq_getElem (by omega)
              generalize l[j] = p at hpr hpv
              obtain ⟨pf, pe, pk, pn, ps⟩ := p
              have HN : Hid ((nextOK (pf, pe, pk, pn, ps) (f, e, kk, n, s) && okFrom (prevAt l (j + 1 + 1)) (l.drop (j + 1 + 1))) = q) := by
                unfold Hid
                have hp : prevAt l (j + 1 + 1) = some (f, e, kk, n, s) := by
                  have := HD.out
                  unfold prevAt
                  rw [if_neg (by omega)]
                  have e0 : l[j + 1 + 1 - 1]? = (l.drop (j + 1))[0]? := by rw [List.getElem?_drop]; rfl
                  rw [e0, this]; rfl
                rw [← HK.out, HD.out, hpv, hp, okFrom, HROW.out]; rfl
              clear HQ HK HD HROW HR hpv
              obtain ⟨p0, p1, p2, p3, p4⟩ := hpr
              obtain ⟨r0, r1, r2, r3, r4⟩ := HRK.out
              simp only at p0 p1 p2 p3 p4 r0 r1 r2 r3 r4
              clear HBK HBW HRK
              cases hlt' : decide (f < pe) with
              | true =>
                have hq : q = false := by
                  rw [← HN.out, nextOK]
                  simp only
                  rw [hlt']; rfl
                subst hq
                clear HN
                go_wp2_with fail
                go_quiet (fail)
                go_wp2
                go_ret
                exact ⟨rfl, below_drewN HB'.out _⟩
              | false =>
                have HN2 : Hid ((!contB (pf, pe, pk, pn, ps) (f, e, kk, n, s) && okFrom (prevAt l (j + 1 + 1)) (l.drop (j + 1 + 1))) = q) := by
                  unfold Hid
                  rw [← HN.out, nextOK]
                  simp only
                  rw [hlt']; rfl
                clear HN
                cases hfe : (f == pe) with
                | false =>
                  have HN3 : Hid (okFrom (prevAt l (j + 1 + 1)) (l.drop (j + 1 + 1)) = q) := by
                    unfold Hid
                    rw [← HN2.out, contB]
                    simp only
                    rw [decide_eq_false (fun x => by subst x; simp at hfe)]; rfl
                  clear HN2
                  go_wp2_with fail
                  go_quiet (fail)
                  go_wp2
                  go_roundw
                  case rel => exact ⟨j + 1 + 1, by omega, by go_num, below_drewN HB'.out _, HN3⟩
                  case measure => simp [intOf]; omega
                | true =>
                  have hpe : pe = f := by simpa using (Eq.symm (by simpa using hfe))
                  obtain ⟨q3, hq3⟩ : ∃ q3, decide (((kk, n, s) : Vl) = (pk, pn, ps)) = q3 := ⟨_, rfl⟩
                  have heq := eqlVl (kk, n, s) (pk, pn, ps) q3 hq3
                  have HN3 : Hid ((!q3 && okFrom (prevAt l (j + 1 + 1)) (l.drop (j + 1 + 1))) = q) := by
                    unfold Hid
                    rw [← HN2.out, contB]
                    simp only
                    rw [decide_eq_true hpe, ← hq3]
                    congr 2
                    rw [Bool.eq_iff_iff]
                    simp only [decide_eq_true_eq, Bool.true_and]
                    exact ⟨fun h => h.symm, fun h => h.symm⟩
                  clear HN2 hpe hq3
                  unfold valV at heq
                  simp only at heq
                  cases q3 with
                  | true =>
                    have hq : q = false := HN3.out.symm
                    subst hq
                    clear HN3
                    go_wp2_with fail
                    go_quiet (fail)
                    go_wp2
                    go_ret
                    exact ⟨rfl, below_drewN HB'.out _⟩
                  | false =>
                    replace HN3 : Hid (okFrom (prevAt l (j + 1 + 1)) (l.drop (j + 1 + 1)) = q) := HN3.out
                    go_wp2_with fail
                    go_quiet (fail)
                    go_wp2
                    go_roundw
                    case rel => exact ⟨j + 1 + 1, by omega, by go_num, below_drewN HB'.out _, HN3⟩
                    case measure => simp [intOf]; omega
      · have hq : q = true := by
          rw [← HK.out, List.drop_of_length_le (by omega)]
          cases prevAt l k <;> rfl
        subst hq
        clear HQ HK
        go_wp2
        go_ret
        exact ⟨rfl, hbw⟩
end Go.Proofs.Ytecefhoinggmgaa
