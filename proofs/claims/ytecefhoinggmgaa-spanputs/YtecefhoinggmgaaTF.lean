/-
  Contracts of the document's Put and Cut. No condition.
-/
import Derived.Test.YtecefhoinggmgaaTE
import Derived.Test.YtecefhoinggmgaaSV
namespace Go.Proofs.Ytecefhoinggmgaa
open Go.RowKit

set_option maxHeartbeats 400000 in
theorem done33' (l : List Row) (v : Value) (w : World) (h : RowsAt w w.heap.size v l) :
    Calls Try.prog 33 #[v] w fun e w' => ∃ v', e = .returned (.tuple #[v', .int .i64 (doneR l).2]) ∧ RowsAt w' w'.heap.size v' (doneR l).1 ∧ w = w' := by
  have HO := Lib.hid h
  obtain ⟨A, cap, rfl, h1, h2, -⟩ := h
  unfold maxLen at h2
  by_cases hl : (64 : Int) < l.length
  · have hd : doneR l = ([], 5) := by unfold doneR; rw [if_neg (by omega)]
    rw [hd]
    go_enter Try.func33, Try.ntmps33
    go_wp2
    exact bodyPost_ret (v := .tuple #[.slice none 0 0, .int .i64 5]) (by simp [results, Try.results33, go_sem]) rfl ⟨_, rfl, (OwnR.nil _ w.heap.size).rows, rfl⟩
  · have hd : doneR l = (l, 0) := by unfold doneR; rw [if_pos (by omega)]
    rw [hd]
    go_enter Try.func33, Try.ntmps33
    go_wp2
    exact bodyPost_ret (v := .tuple #[.slice A l.length cap, .int .i64 0]) (by simp [results, Try.results33, go_sem]) rfl ⟨_, rfl, HO.out, rfl⟩

theorem replR_done {l : List Row} {p : Pc} (hl : rowsOK l = true) (hs : isSpanB p.1 p.2.1 = true) : replR l [p] = doneR (overL l p.1 p.2.1 p.2.2.2) := by
  unfold replR doneR
  rw [over_repl hl hs]

set_option maxHeartbeats 1000000 in
theorem refPut12 (l : List Row) (f t : Int) (v : Vl) (lv : Value) (w : World) (hl : RowsAt w w.heap.size lv l) (hlen : l.length ≤ 40000) :
    Calls Try.prog 12 #[lv, .int .i64 f, .int .i64 t, valV v] w fun e w' => ∃ v', e = .returned (.tuple #[v', .int .i64 (putR l f t v).2]) ∧ RowsAt w' w'.heap.size v' (putR l f t v).1 ∧ Below w.heap.size w w' := by
  obtain ⟨ans, hans⟩ : ∃ ans, putR l f t v = ans := ⟨_, rfl⟩
  rw [hans]
  have HANS := Lib.hid hans
  clear hans
  obtain ⟨k, n, s⟩ := v
  have hb0 := below_new w (.cells #[.int .i64 k, .int .i64 n, .string s] 25)
  have HB0 := Lib.hid hb0
  have HV := Lib.hid (ValAt.new w k n s)
  have HL := Lib.hid (hl.step hb0)
  have HR := Lib.hid (right30 l lv _ HL.out)
  have HS := Lib.hid (span32 f t)
  have HRV := Lib.hid (right31 (k, n, s))
  obtain ⟨A, cap, rfl, h1, h2, h3⟩ := hl
  unfold maxLen at h2
  clear h3 hb0
  have HNIL : Hid (∀ W : World, RowsAt W W.heap.size (.slice none 0 0) []) := fun W => (OwnR.nil W W.heap.size).rows
  unfold valV at HRV ⊢
  simp only at HRV ⊢
  cases hok : rowsOK l with
  | false =>
    rw [hok] at HR
    have he : ans = ([], 2) := by
      rw [← HANS.out, putR, setR, hok]
      split <;> rfl
    subst he
    clear hok HANS
    go_enter Try.func12, Try.ntmps12
    go_wp2_with fail
    refine HR.out.mono ?_
    rintro e' w1 ⟨rfl, hb1⟩
    have HB1 := Lib.hid (HB0.out.trans (hb1.mono HB0.out.size))
    clear hb1
    go_wp2
    go_ret2
    exact ⟨_, rfl, HNIL.out _, HB1.out⟩
  | true =>
    rw [hok] at HR
    cases hvk : valOK (k, n, s) with
    | false =>
      rw [hvk] at HRV
      have he : ans = ([], 2) := by rw [← HANS.out, putR, hvk]; rfl
      subst he
      clear hok HANS
      go_enter Try.func12, Try.ntmps12
      go_wp2_with fail
      refine HR.out.mono ?_
      rintro e' w1 ⟨rfl, hb1⟩
      have HB1 := Lib.hid (HB0.out.trans (hb1.mono HB0.out.size))
      obtain ⟨v0, v1, v2⟩ := HV.out.step hb1
      simp only at v0 v1 v2
      clear hb1
      go_wp2_with fail
      refine (HRV.out _).mono ?_
      rintro e' w2 ⟨rfl, hb2⟩
      have HB2 := Lib.hid (HB1.out.trans (hb2.mono HB1.out.size))
      clear hb2
      go_wp2
      go_ret2
      exact ⟨_, rfl, HNIL.out _, HB2.out⟩
    | true =>
      rw [hvk] at HRV
      have HE : Hid ((if isSpanB f t then replR l [(f, t, vz, (k, n, s))] else ([], 15)) = ans) := by unfold Hid; rw [← HANS.out, putR, hvk, setR, hok]; rfl
      have HOK := Lib.hid hok
      clear hok HANS
      go_enter Try.func12, Try.ntmps12
      go_wp2_with fail
      refine HR.out.mono ?_
      rintro e' w1 ⟨rfl, hb1⟩
      have HB1 := Lib.hid (HB0.out.trans (hb1.mono HB0.out.size))
      have HV1 := Lib.hid (HV.out.step hb1)
      have HL1 := Lib.hid (HL.out.step hb1)
      obtain ⟨v0, v1, v2⟩ := HV1.out
      simp only at v0 v1 v2
      clear hb1
      go_wp2_with fail
      refine (HRV.out _).mono ?_
      rintro e' w2 ⟨rfl, hb2⟩
      have HB2 := Lib.hid (HB1.out.trans (hb2.mono HB1.out.size))
      have HL2 := Lib.hid (HL1.out.step hb2)
      clear v0 v1 v2
      obtain ⟨v0, v1, v2⟩ := HV1.out.step hb2
      simp only at v0 v1 v2
      clear hb2
      cases hsp : isSpanB f t with
      | false =>
        rw [hsp] at HS HE
        have he : ans = ([], 15) := HE.out.symm
        subst he
        go_wp2_with fail
        refine (HS.out _).mono ?_
        rintro e' w' ⟨rfl, rfl⟩
        go_wp2
        go_ret2
        exact ⟨_, rfl, HNIL.out _, HB2.out⟩
      | true =>
        rw [hsp] at HS HE
        have he : doneR (overL l f t (k, n, s)) = ans := (replR_done (p := (f, t, vz, (k, n, s))) HOK.out hsp).symm.trans HE.out
        subst he
        have HO := Lib.hid (over34 l f t (k, n, s) _ w2 HL2.out hlen)
        unfold valV at HO
        simp only at HO
        clear HE
        go_wp2_with fail
        refine (HS.out _).mono ?_
        rintro e' w' ⟨rfl, rfl⟩
        go_wp2_with fail
        refine HO.out.mono ?_
        rintro e' w3 ⟨v3, rfl, ho3, hb3⟩
        have HD := Lib.hid (done33' _ _ w3 ho3)
        have HB3 := Lib.hid (HB2.out.trans (hb3.mono HB2.out.size))
        obtain ⟨A3, c3, rfl, -⟩ := ho3
        clear hb3
        go_wp2_with fail
        refine HD.out.mono ?_
        rintro e' w' ⟨v4, rfl, ho4, rfl⟩
        have HO4 := Lib.hid ho4
        clear ho4
        go_wp2
        go_ret2
        exact ⟨v4, rfl, HO4.out, HB3.out⟩

set_option maxHeartbeats 1000000 in
theorem refCut14 (l : List Row) (f t : Int) (lv : Value) (w : World) (hl : RowsAt w w.heap.size lv l) (hlen : l.length ≤ 40000) :
    Calls Try.prog 14 #[lv, .int .i64 f, .int .i64 t] w fun e w' => ∃ v', e = .returned (.tuple #[v', .int .i64 (cutR l f t).2]) ∧ RowsAt w' w'.heap.size v' (cutR l f t).1 ∧ Below w.heap.size w w' := by
  obtain ⟨ans, hans⟩ : ∃ ans, cutR l f t = ans := ⟨_, rfl⟩
  rw [hans]
  have HANS := Lib.hid hans
  clear hans
  have HL := Lib.hid hl
  have HR := Lib.hid (right30 l lv _ HL.out)
  have HS := Lib.hid (span32 f t)
  obtain ⟨A, cap, rfl, h1, h2, h3⟩ := hl
  unfold maxLen at h2
  clear h3
  have HNIL : Hid (∀ W : World, RowsAt W W.heap.size (.slice none 0 0) []) := fun W => (OwnR.nil W W.heap.size).rows
  cases hok : rowsOK l with
  | false =>
    rw [hok] at HR
    have he : ans = ([], 2) := by rw [← HANS.out, cutR, setR, hok]; rfl
    subst he
    clear hok HANS
    go_enter Try.func14, Try.ntmps14
    go_wp2_with fail
    refine HR.out.mono ?_
    rintro e' w1 ⟨rfl, hb1⟩
    have HB1 := Lib.hid hb1
    clear hb1
    go_wp2
    go_ret2
    exact ⟨_, rfl, HNIL.out _, HB1.out⟩
  | true =>
    rw [hok] at HR
    have HE : Hid ((if isSpanB f t then replR l [(f, t, vz, vz)] else ([], 15)) = ans) := by unfold Hid; rw [← HANS.out, cutR, setR, hok]; rfl
    have HOK := Lib.hid hok
    clear hok HANS
    go_enter Try.func14, Try.ntmps14
    go_wp2_with fail
    refine HR.out.mono ?_
    rintro e' w2 ⟨rfl, hb2⟩
    have HB2 := Lib.hid hb2
    have HL2 := Lib.hid (HL.out.step hb2)
    clear hb2
    cases hsp : isSpanB f t with
    | false =>
      rw [hsp] at HS HE
      have he : ans = ([], 15) := HE.out.symm
      subst he
      go_wp2_with fail
      refine (HS.out _).mono ?_
      rintro e' w' ⟨rfl, rfl⟩
      go_wp2
      go_ret2
      exact ⟨_, rfl, HNIL.out _, HB2.out⟩
    | true =>
      rw [hsp] at HS HE
      have he : doneR (overL l f t vz) = ans := (replR_done (p := (f, t, vz, vz)) HOK.out hsp).symm.trans HE.out
      subst he
      have HO := Lib.hid (over34 l f t vz _ w2 HL2.out hlen)
      unfold valV vz at HO
      simp only at HO
      clear HE
      go_wp2_with fail
      refine (HS.out _).mono ?_
      rintro e' w' ⟨rfl, rfl⟩
      go_wp2_with fail
      refine HO.out.mono ?_
      rintro e' w3 ⟨v3, rfl, ho3, hb3⟩
      have HD := Lib.hid (done33' _ _ w3 ho3)
      have HB3 := Lib.hid (HB2.out.trans (hb3.mono HB2.out.size))
      obtain ⟨A3, c3, rfl, -⟩ := ho3
      clear hb3
      go_wp2_with fail
      refine HD.out.mono ?_
      rintro e' w' ⟨v4, rfl, ho4, rfl⟩
      have HO4 := Lib.hid ho4
      clear ho4
      go_wp2
      go_ret2
      exact ⟨v4, rfl, HO4.out, HB3.out⟩
end Go.Proofs.Ytecefhoinggmgaa
