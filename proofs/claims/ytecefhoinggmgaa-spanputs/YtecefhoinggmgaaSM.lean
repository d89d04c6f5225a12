/-
  Contracts of span.set, span.Put and span.Cut. No condition.
-/
import Derived.Test.YtecefhoinggmgaaSL
namespace Go.Proofs.Ytecefhoinggmgaa
open Go.RowKit

/-! ### Rows that are right -/
theorem okFrom_ce : ∀ {l : List Row} {p : Option Row}, okFrom p l = true → (∀ q, p = some q → 0 ≤ q.2.1 ∧ q.2.1 ≤ 1099511627776) →
    CE (match p with | some q => q.2.1 | none => 0) (p.map (·.2.2)) l 1099511627776 ∧ ∀ r ∈ l, valOK r.2.2 = true
  | [], none, _, _ => ⟨show (0 : Int) ≤ _ by omega, fun r hr => by cases hr⟩
  | [], some q, _, hq => ⟨(hq q rfl).2, fun r hr => by cases hr⟩
  | r :: l, none, h, _ => by
    rw [okFrom, Bool.and_eq_true, rowOK, Bool.and_eq_true, isSpanB_iff] at h
    obtain ⟨⟨h1, h2⟩, h3⟩ := h
    obtain ⟨i1, i2⟩ := okFrom_ce h3 (fun q hq => by cases hq; omega)
    exact ⟨⟨h1.1, h1.2.1, by simp, i1⟩, fun x hx => by rcases List.mem_cons.1 hx with rfl | hx; exact h2; exact i2 x hx⟩
  | r :: l, some q, h, hq => by
    rw [okFrom, Bool.and_eq_true, rowOK, Bool.and_eq_true, isSpanB_iff, Bool.and_eq_true] at h
    obtain ⟨⟨h1, h2⟩, h3, h4⟩ := h
    obtain ⟨i1, i2⟩ := okFrom_ce h4 (fun q hq => by cases hq; omega)
    rw [nextOK, Bool.and_eq_true] at h3
    obtain ⟨n1, n2⟩ := h3
    have n1 : ¬ r.1 < q.2.1 := by simpa using n1
    refine ⟨⟨show q.2.1 ≤ r.1 by omega, h1.2.1, fun hh => ?_, i1⟩, fun x hx => by rcases List.mem_cons.1 hx with rfl | hx; exact h2; exact i2 x hx⟩
    have : contB q r = true := by
      have e1 : q.2.1 = r.1 := hh.1.symm
      have e2 : q.2.2 = r.2.2 := by injection hh.2
      simp [contB, e1, e2]
    rw [this] at n2
    cases n2

theorem okFrom_of : ∀ {l : List Row} {lo : Int} {pv : Option Vl} {p : Option Row} {E : Int}, CE lo pv l E → 0 ≤ lo → E ≤ 1099511627776 → (∀ r ∈ l, valOK r.2.2 = true) → (∀ q, p = some q → q.2.1 = lo ∧ pv = some q.2.2) → okFrom p l = true
  | [], _, _, none, _, _, _, _, _, _ => rfl
  | [], _, _, some _, _, _, _, _, _, _ => rfl
  | r :: l, lo, pv, p, E, h, h0, hE, hv, hp => by
    obtain ⟨c1, c2, c3, c4⟩ := h
    have hle := c4.le
    have hrow : rowOK r = true := by
      rw [rowOK, Bool.and_eq_true, isSpanB_iff]
      exact ⟨⟨by omega, c2, by omega⟩, hv r List.mem_cons_self⟩
    have ih : okFrom (some r) l = true := okFrom_of c4 (by omega) hE (fun x hx => hv x (List.mem_cons_of_mem _ hx)) (fun q hq => by cases hq; exact ⟨rfl, rfl⟩)
    cases p with
    | none => rw [okFrom, hrow, ih]; rfl
    | some q =>
      obtain ⟨e1, e2⟩ := hp q rfl
      have hn : nextOK q r = true := by
        rw [nextOK, Bool.and_eq_true]
        refine ⟨by simp; omega, ?_⟩
        have : contB q r = false := by
          rw [contB, Bool.and_eq_false_iff]
          by_cases hx : q.2.1 = r.1
          · right
            rw [decide_eq_false_iff_not]
            intro hy
            exact c3 ⟨by omega, by rw [e2, hy]⟩
          · left
            simpa using hx
        rw [this]; rfl
      rw [okFrom, hrow, ih, hn]; rfl

theorem rowsOK_iff (l : List Row) : rowsOK l = true ↔ l.length ≤ 64 ∧ CE 0 none l 1099511627776 ∧ ∀ r ∈ l, valOK r.2.2 = true := by
  rw [rowsOK, Bool.and_eq_true, decide_eq_true_eq]
  constructor
  · rintro ⟨h1, h2⟩
    have := okFrom_ce h2 (fun q hq => by cases hq)
    exact ⟨h1, this.1, this.2⟩
  · rintro ⟨h1, h2, h3⟩
    exact ⟨h1, okFrom_of h2 (Int.le_refl _) (Int.le_refl _) h3 (fun q hq => by cases hq)⟩

theorem ce_ends {α : Type} : ∀ {l : List (Seg α)} {lo : Int} {pv : Option α} {E : Int}, CE lo pv l E → ∀ x ∈ l, x.2.1 ≤ E
  | [], _, _, _, _, x, hx => by cases hx
  | r :: l, lo, pv, E, h, x, hx => by
    rcases List.mem_cons.1 hx with rfl | hx
    · exact h.2.2.2.le
    · exact ce_ends h.2.2.2 x hx
theorem left_of_ok {l : List Row} (h : rowsOK l = true) : Left 0 1099511627776 l :=
  have hc := ((rowsOK_iff l).1 h).2.1
  Left.of_up hc.up (ce_ends hc)

/-! ### set, Put, Cut -/
def replR (l : List Row) (d : List Pc) : List Row × Int := if (replL d (strA l d)).length ≤ 64 then (replL d (strA l d), 0) else ([], 5)
def setR (l : List Row) (p : Pc) : List Row × Int :=
  if rowsOK l then (if isSpanB p.1 p.2.1 then replR l [p] else ([], 15)) else ([], 2)

theorem replace42' (l : List Row) (d : List Pc) (lv dv : Value) (w : World) (hl : RowsAt w w.heap.size lv l) (hd : PcsAt w w.heap.size dv d) (hul : Left 0 1099511627776 l) (hud : Left 0 1099511627776 d) :
    Calls Try.prog 42 #[lv, dv] w fun e w' => ∃ v, e = .returned (.tuple #[v, .int .i64 (replR l d).2]) ∧ OwnR w' w.heap.size v (replR l d).1 ∧ Below w.heap.size w w' := by
  have h := replace42 l d lv dv w hl hd hul hud
  unfold replR
  by_cases hh : (replL d (strA l d)).length ≤ 64
  · simp only [if_pos hh] at h ⊢; exact h
  · simp only [if_neg hh] at h ⊢; exact h

theorem OwnR.base {w : World} {n₀ n₁ : Nat} {v : Value} {l : List Row} (h : OwnR w n₀ v l) (hn : n₁ ≤ n₀) : OwnR w n₁ v l := by
  refine ⟨h.1, ?_⟩
  rcases h.2 with h0 | ⟨g, cap, cur, e, hb, rest⟩
  · exact .inl h0
  · exact .inr ⟨g, cap, cur, e, Nat.le_trans hn hb, rest⟩

theorem pcs_one (W : World) (f t hk hn : Int) (hs : ByteArray) (k n : Int) (s : ByteArray) :
    PcsAt (W.alloc (.cells #[.int .i64 f, .int .i64 t, .int .i64 hk, .int .i64 hn, .string hs, .int .i64 k, .int .i64 n, .string s] 44)) (W.heap.size + 1) (.slice (some ⟨W.heap.size, 0, none⟩) 1 1) [(f, t, (hk, hn, hs), (k, n, s))] := by
  refine ⟨some ⟨W.heap.size, 0, none⟩, 1, rfl, Nat.le_refl _, by unfold maxLen; omega, fun _ => ⟨W.heap.size, 0, rfl, by omega, fun i hi => ?_⟩⟩
  have hi0 : i = 0 := by simp at hi; omega
  subst hi0
  exact ⟨by simp [go_sem], by simp [go_sem], by simp [go_sem], by simp [go_sem], by simp [go_sem], by simp [go_sem], by simp [go_sem], by simp [go_sem]⟩

set_option maxHeartbeats 1000000 in
theorem set29 (l : List Row) (p : Pc) (lv : Value) (w : World) (hl : RowsAt w w.heap.size lv l) :
    Calls Try.prog 29 #[lv, pcV p] w fun e w' => ∃ v, e = .returned (.tuple #[v, .int .i64 (setR l p).2]) ∧ OwnR w' w.heap.size v (setR l p).1 ∧ Below w.heap.size w w' := by
  obtain ⟨ans, hans⟩ : ∃ ans, setR l p = ans := ⟨_, rfl⟩
  rw [hans]
  obtain ⟨f, t, ⟨hk, hn, hs⟩, ⟨k, n, s⟩⟩ := p
  have hb0 : Below w.heap.size w (w.alloc (.cells #[.int .i64 f, .int .i64 t, .int .i64 hk, .int .i64 hn, .string hs, .int .i64 k, .int .i64 n, .string s] 44)) := (Below.refl _ _).alloc (Nat.le_refl _) _
  have HC := Lib.hid (check18 l lv _ (hl.step hb0))
  have HB0 := Lib.hid hb0
  have HANS := Lib.hid hans
  have HL := Lib.hid hl
  obtain ⟨lA, lc, rfl, -⟩ := hl
  clear hans hb0
  unfold pcV
  simp only
  cases hok : rowsOK l with
  | false =>
    rw [hok] at HC
    have he : ans = ([], 2) := by rw [← HANS.out, setR, hok]; rfl
    subst he
    clear hok HANS
    go_enter Try.func29, Try.ntmps29
    go_wp2_with fail
    refine HC.out.mono ?_
    rintro e' w1 ⟨rfl, hb1⟩
    have HB1 := Lib.hid (HB0.out.trans (hb1.mono (by simp)))
    clear hb1
    go_wp2
    go_ret2
    exact ⟨_, rfl, OwnR.nil _ _, HB1.out⟩
  | true =>
    rw [hok] at HC
    have HLE := Lib.hid (left_of_ok hok)
    have HS := Lib.hid (isSpan38 f t)
    cases hsp : isSpanB f t with
    | false =>
      rw [hsp] at HS
      have he : ans = ([], 15) := by rw [← HANS.out, setR, hok]; simp only [if_true]; rw [hsp]; rfl
      subst he
      clear hok HANS hsp
      go_enter Try.func29, Try.ntmps29
      go_wp2_with fail
      refine HC.out.mono ?_
      rintro e' w1 ⟨rfl, hb1⟩
      have HB1 := Lib.hid (HB0.out.trans (hb1.mono (by simp)))
      have p0 : w1.cell? ⟨w.heap.size, 0, none⟩ = some (.int .i64 f) := by rw [hb1.cell (by simp)]; simp [go_sem]
      have p1 : w1.cell? ⟨w.heap.size, 1, none⟩ = some (.int .i64 t) := by rw [hb1.cell (by simp)]; simp [go_sem]
      clear hb1
      go_wp2_with fail
      refine (HS.out _).mono ?_
      rintro e' w' ⟨rfl, rfl⟩
      go_wp2
      go_ret2
      exact ⟨_, rfl, OwnR.nil _ _, HB1.out⟩
    | true =>
      rw [hsp] at HS
      have hft := isSpanB_iff.1 hsp
      have HUD : Hid (Left 0 1099511627776 ([(f, t, (hk, hn, hs), (k, n, s))] : List Pc)) := by
        refine ⟨?_, ?_, trivial, ?_⟩
        · show 0 < t; omega
        · show f < t; omega
        · intro x hx
          have : x = (f, t, (hk, hn, hs), (k, n, s)) := by simpa using hx
          subst this
          exact hft.2.2
      have HE : Hid (replR l [(f, t, (hk, hn, hs), (k, n, s))] = ans) := by
        unfold Hid
        rw [← HANS.out, setR, hok]; simp only [if_true]; rw [hsp]; rfl
      clear hok HANS hsp hft
      go_enter Try.func29, Try.ntmps29
      go_wp2_with fail
      refine HC.out.mono ?_
      rintro e' w1 ⟨rfl, hb1⟩
      have HB1 := Lib.hid (HB0.out.trans (hb1.mono (by simp)))
      have p0 : w1.cell? ⟨w.heap.size, 0, none⟩ = some (.int .i64 f) := by rw [hb1.cell (by simp)]; simp [go_sem]
      have p1 : w1.cell? ⟨w.heap.size, 1, none⟩ = some (.int .i64 t) := by rw [hb1.cell (by simp)]; simp [go_sem]
      have p2 : w1.cell? ⟨w.heap.size, 2, none⟩ = some (.int .i64 hk) := by rw [hb1.cell (by simp)]; simp [go_sem]
      have p3 : w1.cell? ⟨w.heap.size, 3, none⟩ = some (.int .i64 hn) := by rw [hb1.cell (by simp)]; simp [go_sem]
      have p4 : w1.cell? ⟨w.heap.size, 4, none⟩ = some (.string hs) := by rw [hb1.cell (by simp)]; simp [go_sem]
      have p5 : w1.cell? ⟨w.heap.size, 5, none⟩ = some (.int .i64 k) := by rw [hb1.cell (by simp)]; simp [go_sem]
      have p6 : w1.cell? ⟨w.heap.size, 6, none⟩ = some (.int .i64 n) := by rw [hb1.cell (by simp)]; simp [go_sem]
      have p7 : w1.cell? ⟨w.heap.size, 7, none⟩ = some (.string s) := by rw [hb1.cell (by simp)]; simp [go_sem]
      clear hb1
      have hb2 : Below w1.heap.size w1 (w1.alloc (.cells #[.int .i64 f, .int .i64 t, .int .i64 hk, .int .i64 hn, .string hs, .int .i64 k, .int .i64 n, .string s] 44)) := (Below.refl _ _).alloc (Nat.le_refl _) _
      have HRE := Lib.hid (replace42' l [(f, t, (hk, hn, hs), (k, n, s))] _ _ (w1.alloc (.cells #[.int .i64 f, .int .i64 t, .int .i64 hk, .int .i64 hn, .string hs, .int .i64 k, .int .i64 n, .string s] 44)) (((HL.out.below HB1.out).more HB1.out.size).step hb2) ((pcs_one w1 f t hk hn hs k n s).more (by simp)) HLE.out HUD.out)
      rw [HE.out] at HRE
      have HB2 := Lib.hid (HB1.out.trans (hb2.mono HB1.out.size))
      have hsz : w.heap.size ≤ w1.heap.size := HB1.out.size
      clear hb2
      go_wp2_with fail
      refine (HS.out _).mono ?_
      rintro e' w' ⟨rfl, rfl⟩
      go_wp2_with fail
      refine HRE.out.mono ?_
      rintro e' w2 ⟨v, rfl, ho, hb3⟩
      have HO := Lib.hid ho
      have HB3 := Lib.hid (HB2.out.trans (hb3.mono HB2.out.size))
      clear ho hb3
      go_wp2
      go_ret2
      exact ⟨v, rfl, HO.out.base (by simp; omega), HB3.out⟩

def putR (l : List Row) (f t : Int) (v : Vl) : List Row × Int := if valOK v then setR l (f, t, vz, v) else ([], 2)
def cutR (l : List Row) (f t : Int) : List Row × Int := setR l (f, t, vz, vz)

set_option maxHeartbeats 1000000 in
theorem put11 (l : List Row) (f t : Int) (x : Vl) (lv : Value) (w : World) (hl : RowsAt w w.heap.size lv l) :
    Calls Try.prog 11 #[lv, .int .i64 f, .int .i64 t, valV x] w fun e w' => ∃ v, e = .returned (.tuple #[v, .int .i64 (putR l f t x).2]) ∧ OwnR w' w.heap.size v (putR l f t x).1 ∧ Below w.heap.size w w' := by
  obtain ⟨ans, hans⟩ : ∃ ans, putR l f t x = ans := ⟨_, rfl⟩
  rw [hans]
  have HANS := Lib.hid hans
  have HL := Lib.hid hl
  obtain ⟨lA, lc, rfl, -⟩ := hl
  clear hans
  obtain ⟨k, n, s⟩ := x
  have hb0 : Below w.heap.size w (w.alloc (.cells #[.int .i64 k, .int .i64 n, .string s] 25)) := (Below.refl _ _).alloc (Nat.le_refl _) _
  have HB0 := Lib.hid hb0
  have HV := Lib.hid (check28 (k, n, s))
  unfold valV at HV ⊢
  simp only at HV ⊢
  clear hb0
  cases hok : valOK (k, n, s) with
  | false =>
    rw [hok] at HV
    have he : ans = ([], 2) := by rw [← HANS.out, putR, hok]; rfl
    subst he
    clear hok HANS
    go_enter Try.func11, Try.ntmps11
    go_wp2_with fail
    refine (HV.out _).mono ?_
    rintro e' w1 ⟨rfl, hb1⟩
    have HB1 := Lib.hid (HB0.out.trans (hb1.mono (by simp)))
    clear hb1
    go_wp2
    go_ret2
    exact ⟨_, rfl, OwnR.nil _ _, HB1.out⟩
  | true =>
    rw [hok] at HV
    have HE : Hid (setR l (f, t, vz, (k, n, s)) = ans) := by unfold Hid; rw [← HANS.out, putR, hok]; rfl
    clear hok HANS
    go_enter Try.func11, Try.ntmps11
    go_wp2_with fail
    refine (HV.out _).mono ?_
    rintro e' w1 ⟨rfl, hb1⟩
    have HB1 := Lib.hid (HB0.out.trans (hb1.mono (by simp)))
    have p0 : w1.cell? ⟨w.heap.size, 0, none⟩ = some (.int .i64 k) := by rw [hb1.cell (by simp)]; simp [go_sem]
    have p1 : w1.cell? ⟨w.heap.size, 1, none⟩ = some (.int .i64 n) := by rw [hb1.cell (by simp)]; simp [go_sem]
    have p2 : w1.cell? ⟨w.heap.size, 2, none⟩ = some (.string s) := by rw [hb1.cell (by simp)]; simp [go_sem]
    have HSE := Lib.hid (set29 l (f, t, vz, (k, n, s)) _ w1 ((HL.out.below HB1.out).more HB1.out.size))
    rw [HE.out] at HSE
    unfold pcV vz at HSE
    simp only at HSE
    have hsz : w.heap.size ≤ w1.heap.size := HB1.out.size
    clear hb1
    go_wp2_with fail
    refine HSE.out.mono ?_
    rintro e' w2 ⟨v, rfl, ho, hb3⟩
    have HO := Lib.hid ho
    have HB3 := Lib.hid (HB1.out.trans (hb3.mono HB1.out.size))
    clear ho hb3
    go_wp2
    go_ret2
    exact ⟨v, rfl, HO.out.base hsz, HB3.out⟩

set_option maxHeartbeats 1000000 in
theorem cut13 (l : List Row) (f t : Int) (lv : Value) (w : World) (hl : RowsAt w w.heap.size lv l) :
    Calls Try.prog 13 #[lv, .int .i64 f, .int .i64 t] w fun e w' => ∃ v, e = .returned (.tuple #[v, .int .i64 (cutR l f t).2]) ∧ OwnR w' w.heap.size v (cutR l f t).1 ∧ Below w.heap.size w w' := by
  obtain ⟨ans, hans⟩ : ∃ ans, cutR l f t = ans := ⟨_, rfl⟩
  rw [hans]
  have HE : Hid (setR l (f, t, vz, vz) = ans) := hans
  have HSE := Lib.hid (set29 l (f, t, vz, vz) _ w hl)
  rw [HE.out] at HSE
  obtain ⟨lA, lc, rfl, -⟩ := hl
  unfold pcV vz at HSE
  simp only at HSE
  clear hans
  go_enter Try.func13, Try.ntmps13
  go_wp2_with fail
  refine HSE.out.mono ?_
  rintro e' w2 ⟨v, rfl, ho, hb3⟩
  have HO := Lib.hid ho
  have HB3 := Lib.hid hb3
  clear ho hb3
  go_wp2
  go_ret2
  exact ⟨v, rfl, HO.out, HB3.out⟩
end Go.Proofs.Ytecefhoinggmgaa
