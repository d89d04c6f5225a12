/-
  SpanPuts returns true. No condition.
-/
import Derived.Test.YtecefhoinggmgaaTF
import Derived.Test.YtecefhoinggmgaaSClip
import Derived.Test.YtecefhoinggmgaaPE
import Derived.Test.YtecefhoinggmgaaTA
import Derived.Test.YtecefhoinggmgaaSS
namespace Go.Proofs.Ytecefhoinggmgaa
open Go.RowKit

set_option maxRecDepth 100000 in
set_option maxHeartbeats 2000000 in
theorem puts3 (l : List Row) (f t : Int) (v : Vl) (lv : Value) (w : World) (hl : RowsAt w w.heap.size lv l) :
    Calls Try.prog 3 #[lv, .int .i64 f, .int .i64 t, valV v] w fun e w' => e = .returned (.bool true) ∧ Below w.heap.size w w' := by
  obtain ⟨k, n, s⟩ := v
  have hb0 := below_new w (.cells #[.int .i64 k, .int .i64 n, .string s] 25)
  have HB0 := Lib.hid hb0
  have HV := Lib.hid (ValAt.new w k n s)
  have HL := Lib.hid (hl.step hb0)
  have HF := Lib.hid (few9 l lv _ HL.out)
  have HLV := Lib.hid lives10
  obtain ⟨lA, lc, rfl, -⟩ := hl
  clear hb0
  unfold valV
  simp only
  cases hfew : fewB l with
  | false =>
    rw [hfew] at HF
    go_enter Try.func3, Try.ntmps3
    go_wp2_with fail
    refine HF.out.mono ?_
    rintro e w' ⟨rfl, rfl⟩
    go_wp2_with (go_at_call 10; go_must (refine (HLV.out _).mono ?_); rintro e w9 ⟨rfl, hb9⟩)
    go_ret
    exact ⟨rfl, HB0.out.trans (hb9.mono HB0.out.size)⟩
  | true =>
    rw [hfew] at HF
    have hlen : l.length ≤ 80 := by
      unfold fewB at hfew
      simp only [Bool.and_eq_true, decide_eq_true_eq] at hfew
      exact hfew.1
    go_enter Try.func3, Try.ntmps3
    go_wp2_with fail
    generalize w.alloc (.cells #[.int .i64 k, .int .i64 n, .string s] 25) = W0 at HB0 HL HV HF ⊢
    obtain ⟨v0, v1, v2⟩ := HV.out
    simp only at v0 v1 v2
    obtain ⟨pa, pe, hpa⟩ : ∃ pa pe, putR l f t (k, n, s) = (pa, pe) := ⟨_, _, rfl⟩
    have HPA := Lib.hid hpa
    obtain ⟨cu, ce, hcu⟩ : ∃ cu ce, cutR l f t = (cu, ce) := ⟨_, _, rfl⟩
    have HCU := Lib.hid hcu
    obtain ⟨xk, xn, xs, is, hx⟩ : ∃ xk xn xs is, atR l f = ((xk, xn, xs), is) := ⟨_, _, _, _, rfl⟩
    have HAT := Lib.hid hx
    obtain ⟨ck, hck⟩ : ∃ ck : Int, (if rowsOK l then (0 : Int) else 2) = ck := ⟨_, rfl⟩
    have HCK := Lib.hid hck
    obtain ⟨cl, hcl⟩ : ∃ cl, clipR l f t = cl := ⟨_, rfl⟩
    have HCL := Lib.hid hcl
    have HCR : Hid ((if rowsOK l then l.filterMap (clipO f t) else []) = cl) := by
      unfold Hid
      rw [← hcl]
      cases hok : rowsOK l with
      | true => rw [(clip_sem hok f t).2.2.2]; rfl
      | false => unfold clipR; rw [hok]; rfl
    clear hpa hcu hx hck hcl hfew
    by_cases hsz : (200 : Int) < s.size
    · refine HF.out.mono ?_
      rintro e w' ⟨rfl, rfl⟩
      go_wp2_with fail
      refine (HLV.out _).mono ?_
      rintro e w9 ⟨rfl, hb9⟩
      go_wp2
      go_ret
      exact ⟨rfl, HB0.out.trans (hb9.mono HB0.out.size)⟩
    · refine HF.out.mono ?_
      rintro e w' ⟨rfl, rfl⟩
      go_wp2_with (at_builtin; go_must (refine wpList_append_rows rfl _ _ rfl W0.heap.size _ _ [] l rfl rfl ?own1 ?n1 ?r1 ?l1 ?_))
      case own1 => exact own_lit0 W0 _ (Nat.le_refl _)
      case n1 => simp
      case r1 => exact HL.out.step (below_new W0 _)
      case l1 => simp; omega
      intro vown W1 ho hg hwhere
      have hb : Below W0.heap.size W0 W1 := (below_new W0 _).trans (below_grown (own_lit0 W0 W0.heap.size (Nat.le_refl _)) (by simp) hg)
      have H_own := Lib.hid ho.rows
      have H_l := Lib.hid (HL.out.step hb)
      have H_v := Lib.hid (HV.out.step hb)
      have HB := Lib.hid (HB0.out.trans (hb.mono HB0.out.size))
      obtain ⟨ownA, ownc, rfl, -⟩ := H_own.out
      clear ho hg hwhere hb v0 v1 v2 HF
      have HC := Lib.hid (put11 l f t (k, n, s) _ W1 H_own.out)
      unfold valV at HC
      simp only at HC
      rw [HPA.out] at HC
      simp only at HC
      obtain ⟨v0, v1, v2⟩ := H_v.out
      simp only at v0 v1 v2
      go_wp2_with fail
      refine HC.out.mono ?_
      rintro e w2 ⟨va, rfl, ho, hb⟩
      clear v0 v1 v2 HC
      have HN_own := Lib.hid (H_own.out.step hb)
      have HN_l := Lib.hid (H_l.out.step hb)
      have HN_v := Lib.hid (H_v.out.step hb)
      have HNB := Lib.hid (HB.out.trans (hb.mono HB.out.size))
      clear HB H_own H_l H_v
      have H_own := HN_own
      have H_l := HN_l
      have H_v := HN_v
      have HB := HNB
      clear HNB HN_own HN_l HN_v hb
      have H_a := Lib.hid ho.rows
      obtain ⟨aA, ac, rfl⟩ := ho.slice
      clear ho
      have HC := Lib.hid (refPut12 l f t (k, n, s) _ w2 H_l.out (by omega))
      unfold valV at HC
      simp only at HC
      rw [HPA.out] at HC
      simp only at HC
      obtain ⟨v0, v1, v2⟩ := H_v.out
      simp only at v0 v1 v2
      go_wp2_with fail
      refine HC.out.mono ?_
      rintro e w3 ⟨vb, rfl, ho, hb⟩
      clear v0 v1 v2 HC
      have HN_own := Lib.hid (H_own.out.step hb)
      have HN_l := Lib.hid (H_l.out.step hb)
      have HN_v := Lib.hid (H_v.out.step hb)
      have HN_a := Lib.hid (H_a.out.step hb)
      have HNB := Lib.hid (HB.out.trans (hb.mono HB.out.size))
      clear HB H_own H_l H_v H_a
      have H_own := HN_own
      have H_l := HN_l
      have H_v := HN_v
      have H_a := HN_a
      have HB := HNB
      clear HNB HN_own HN_l HN_v HN_a hb
      have H_b := Lib.hid ho
      obtain ⟨bA, bc, rfl, -⟩ := ho
      clear H_v
      have HC := Lib.hid (cut13 l f t _ w3 H_own.out)
      rw [HCU.out] at HC
      simp only at HC
      go_wp2_with fail
      refine HC.out.mono ?_
      rintro e w4 ⟨vc, rfl, ho, hb⟩
      clear HC
      have HN_own := Lib.hid (H_own.out.step hb)
      have HN_l := Lib.hid (H_l.out.step hb)
      have HN_a := Lib.hid (H_a.out.step hb)
      have HN_b := Lib.hid (H_b.out.step hb)
      have HNB := Lib.hid (HB.out.trans (hb.mono HB.out.size))
      clear HB H_own H_l H_a H_b
      have H_own := HN_own
      have H_l := HN_l
      have H_a := HN_a
      have H_b := HN_b
      have HB := HNB
      clear HNB HN_own HN_l HN_a HN_b hb
      have H_c := Lib.hid ho.rows
      obtain ⟨cA, cc, rfl⟩ := ho.slice
      clear ho
      have HC := Lib.hid (refCut14 l f t _ w4 H_l.out (by omega))
      rw [HCU.out] at HC
      simp only at HC
      go_wp2_with fail
      refine HC.out.mono ?_
      rintro e w5 ⟨vd, rfl, ho, hb⟩
      clear HC
      have HN_own := Lib.hid (H_own.out.step hb)
      have HN_l := Lib.hid (H_l.out.step hb)
      have HN_a := Lib.hid (H_a.out.step hb)
      have HN_b := Lib.hid (H_b.out.step hb)
      have HN_c := Lib.hid (H_c.out.step hb)
      have HNB := Lib.hid (HB.out.trans (hb.mono HB.out.size))
      clear HB H_own H_l H_a H_b H_c
      have H_own := HN_own
      have H_l := HN_l
      have H_a := HN_a
      have H_b := HN_b
      have H_c := HN_c
      have HB := HNB
      clear HNB HN_own HN_l HN_a HN_b HN_c hb
      have H_d := Lib.hid ho
      obtain ⟨dA, dc, rfl, -⟩ := ho
      have HC := Lib.hid (at15 l f _ w5 H_own.out)
      rw [HAT.out] at HC
      unfold valV at HC
      simp only at HC
      go_wp2_with fail
      refine HC.out.mono ?_
      rintro e w6 ⟨rfl, hb⟩
      clear HC
      have HN_own := Lib.hid (H_own.out.step hb)
      have HN_l := Lib.hid (H_l.out.step hb)
      have HN_a := Lib.hid (H_a.out.step hb)
      have HN_b := Lib.hid (H_b.out.step hb)
      have HN_c := Lib.hid (H_c.out.step hb)
      have HN_d := Lib.hid (H_d.out.step hb)
      have HNB := Lib.hid (HB.out.trans (hb.mono HB.out.size))
      clear HB H_own H_l H_a H_b H_c H_d
      have H_own := HN_own
      have H_l := HN_l
      have H_a := HN_a
      have H_b := HN_b
      have H_c := HN_c
      have H_d := HN_d
      have HB := HNB
      clear HNB HN_own HN_l HN_a HN_b HN_c HN_d hb
      have hb := below_new w6 (.cells #[.int .i64 xk, .int .i64 xn, .string xs] 25)
      have HN_own := Lib.hid (H_own.out.step hb)
      have HN_l := Lib.hid (H_l.out.step hb)
      have HN_a := Lib.hid (H_a.out.step hb)
      have HN_b := Lib.hid (H_b.out.step hb)
      have HN_c := Lib.hid (H_c.out.step hb)
      have HN_d := Lib.hid (H_d.out.step hb)
      have HNB := Lib.hid (HB.out.trans (hb.mono HB.out.size))
      clear HB H_own H_l H_a H_b H_c H_d
      have H_own := HN_own
      have H_l := HN_l
      have H_a := HN_a
      have H_b := HN_b
      have H_c := HN_c
      have H_d := HN_d
      have HB := HNB
      clear HNB HN_own HN_l HN_a HN_b HN_c HN_d hb
      have H_x := Lib.hid (ValAt.new w6 xk xn xs)
      have HC := Lib.hid (refAt16 l f _ _ H_l.out)
      rw [HAT.out] at HC
      unfold valV at HC
      simp only at HC
      go_wp2_with fail
      refine HC.out.mono ?_
      rintro e w7 ⟨rfl, hb⟩
      clear HC
      have HN_own := Lib.hid (H_own.out.step hb)
      have HN_l := Lib.hid (H_l.out.step hb)
      have HN_a := Lib.hid (H_a.out.step hb)
      have HN_b := Lib.hid (H_b.out.step hb)
      have HN_c := Lib.hid (H_c.out.step hb)
      have HN_d := Lib.hid (H_d.out.step hb)
      have HN_x := Lib.hid (H_x.out.step hb)
      have HNB := Lib.hid (HB.out.trans (hb.mono HB.out.size))
      clear HB H_own H_l H_a H_b H_c H_d H_x
      have H_own := HN_own
      have H_l := HN_l
      have H_a := HN_a
      have H_b := HN_b
      have H_c := HN_c
      have H_d := HN_d
      have H_x := HN_x
      have HB := HNB
      clear HNB HN_own HN_l HN_a HN_b HN_c HN_d HN_x hb
      have hb := below_new w7 (.cells #[.int .i64 xk, .int .i64 xn, .string xs] 25)
      have HN_own := Lib.hid (H_own.out.step hb)
      have HN_l := Lib.hid (H_l.out.step hb)
      have HN_a := Lib.hid (H_a.out.step hb)
      have HN_b := Lib.hid (H_b.out.step hb)
      have HN_c := Lib.hid (H_c.out.step hb)
      have HN_d := Lib.hid (H_d.out.step hb)
      have HN_x := Lib.hid (H_x.out.step hb)
      have HNB := Lib.hid (HB.out.trans (hb.mono HB.out.size))
      clear HB H_own H_l H_a H_b H_c H_d H_x
      have H_own := HN_own
      have H_l := HN_l
      have H_a := HN_a
      have H_b := HN_b
      have H_c := HN_c
      have H_d := HN_d
      have H_x := HN_x
      have HB := HNB
      clear HNB HN_own HN_l HN_a HN_b HN_c HN_d HN_x hb
      have H_y := Lib.hid (ValAt.new w7 xk xn xs)
      have HC := Lib.hid (same17 pa pa _ _ _ H_a.out H_b.out)
      rw [decide_eq_true rfl] at HC
      go_wp2_with fail
      refine HC.out.mono ?_
      rintro e w8 ⟨rfl, hb⟩
      clear HC
      have HN_own := Lib.hid (H_own.out.step hb)
      have HN_l := Lib.hid (H_l.out.step hb)
      have HN_a := Lib.hid (H_a.out.step hb)
      have HN_b := Lib.hid (H_b.out.step hb)
      have HN_c := Lib.hid (H_c.out.step hb)
      have HN_d := Lib.hid (H_d.out.step hb)
      have HN_x := Lib.hid (H_x.out.step hb)
      have HN_y := Lib.hid (H_y.out.step hb)
      have HNB := Lib.hid (HB.out.trans (hb.mono HB.out.size))
      clear HB H_own H_l H_a H_b H_c H_d H_x H_y
      have H_own := HN_own
      have H_l := HN_l
      have H_a := HN_a
      have H_b := HN_b
      have H_c := HN_c
      have H_d := HN_d
      have H_x := HN_x
      have H_y := HN_y
      have HB := HNB
      clear HNB HN_own HN_l HN_a HN_b HN_c HN_d HN_x HN_y hb
      have HC := Lib.hid (same17 cu cu _ _ _ H_c.out H_d.out)
      rw [decide_eq_true rfl] at HC
      go_wp2_with fail
      refine HC.out.mono ?_
      rintro e w9 ⟨rfl, hb⟩
      clear HC
      have HN_own := Lib.hid (H_own.out.step hb)
      have HN_l := Lib.hid (H_l.out.step hb)
      have HN_a := Lib.hid (H_a.out.step hb)
      have HN_b := Lib.hid (H_b.out.step hb)
      have HN_c := Lib.hid (H_c.out.step hb)
      have HN_d := Lib.hid (H_d.out.step hb)
      have HN_x := Lib.hid (H_x.out.step hb)
      have HN_y := Lib.hid (H_y.out.step hb)
      have HNB := Lib.hid (HB.out.trans (hb.mono HB.out.size))
      clear HB H_own H_l H_a H_b H_c H_d H_x H_y
      have H_own := HN_own
      have H_l := HN_l
      have H_a := HN_a
      have H_b := HN_b
      have H_c := HN_c
      have H_d := HN_d
      have H_x := HN_x
      have H_y := HN_y
      have HB := HNB
      clear HNB HN_own HN_l HN_a HN_b HN_c HN_d HN_x HN_y hb
      clear H_a H_b H_c H_d
      obtain ⟨x0, x1, x2⟩ := H_x.out
      simp only at x0 x1 x2
      obtain ⟨y0, y1, y2⟩ := H_y.out
      simp only at y0 y1 y2
      have heql := eqlVl (xk, xn, xs) (xk, xn, xs) true (by simp)
      unfold valV at heql
      simp only at heql
      have HC := Lib.hid (check18 l _ _ H_own.out)
      rw [HCK.out] at HC
      go_wp2_with fail
      refine HC.out.mono ?_
      rintro e w10 ⟨rfl, hb⟩
      clear HC x0 x1 x2 y0 y1 y2 heql H_x H_y
      have HN_own := Lib.hid (H_own.out.step hb)
      have HN_l := Lib.hid (H_l.out.step hb)
      have HNB := Lib.hid (HB.out.trans (hb.mono HB.out.size))
      clear HB H_own H_l
      have H_own := HN_own
      have H_l := HN_l
      have HB := HNB
      clear HNB HN_own HN_l hb
      have HC := Lib.hid (refCheck19 l _ _ H_l.out)
      rw [HCK.out] at HC
      go_wp2_with fail
      refine HC.out.mono ?_
      rintro e w11 ⟨rfl, hb⟩
      clear HC
      have HN_own := Lib.hid (H_own.out.step hb)
      have HN_l := Lib.hid (H_l.out.step hb)
      have HNB := Lib.hid (HB.out.trans (hb.mono HB.out.size))
      clear HB H_own H_l
      have H_own := HN_own
      have H_l := HN_l
      have HB := HNB
      clear HNB HN_own HN_l hb
      have HC := Lib.hid (clip20 l f t _ _ H_own.out)
      rw [HCL.out] at HC
      go_wp2_with fail
      refine HC.out.mono ?_
      rintro e w12 ⟨vp, rfl, ho, hb⟩
      clear HC
      have HN_own := Lib.hid (H_own.out.step hb)
      have HN_l := Lib.hid (H_l.out.step hb)
      have HNB := Lib.hid (HB.out.trans (hb.mono HB.out.size))
      clear HB H_own H_l
      have H_own := HN_own
      have H_l := HN_l
      have HB := HNB
      clear HNB HN_own HN_l hb
      have H_p := Lib.hid ho.rows
      obtain ⟨pA, pc, rfl⟩ := ho.slice
      clear ho
      have HC := Lib.hid (refClip21 l f t _ _ H_l.out)
      rw [HCR.out] at HC
      go_wp2_with fail
      refine HC.out.mono ?_
      rintro e w13 ⟨vq, rfl, ho, hb⟩
      clear HC
      have HN_own := Lib.hid (H_own.out.step hb)
      have HN_l := Lib.hid (H_l.out.step hb)
      have HN_p := Lib.hid (H_p.out.step hb)
      have HNB := Lib.hid (HB.out.trans (hb.mono HB.out.size))
      clear HB H_own H_l H_p
      have H_own := HN_own
      have H_l := HN_l
      have H_p := HN_p
      have HB := HNB
      clear HNB HN_own HN_l HN_p hb
      have H_q := Lib.hid ho.rows
      obtain ⟨qA, qc, rfl⟩ := ho.slice
      clear ho
      have HC := Lib.hid (same17 cl cl _ _ _ H_p.out H_q.out)
      rw [decide_eq_true rfl] at HC
      go_wp2_with fail
      refine HC.out.mono ?_
      rintro e w14 ⟨rfl, hb⟩
      clear HC
      have HN_own := Lib.hid (H_own.out.step hb)
      have HN_l := Lib.hid (H_l.out.step hb)
      have HN_p := Lib.hid (H_p.out.step hb)
      have HN_q := Lib.hid (H_q.out.step hb)
      have HNB := Lib.hid (HB.out.trans (hb.mono HB.out.size))
      clear HB H_own H_l H_p H_q
      have H_own := HN_own
      have H_l := HN_l
      have H_p := HN_p
      have H_q := HN_q
      have HB := HNB
      clear HNB HN_own HN_l HN_p HN_q hb
      have HC := Lib.hid (same17 l l _ _ _ H_own.out H_l.out)
      rw [decide_eq_true rfl] at HC
      go_wp2_with fail
      refine HC.out.mono ?_
      rintro e w15 ⟨rfl, hb⟩
      clear HC
      have HN_own := Lib.hid (H_own.out.step hb)
      have HN_l := Lib.hid (H_l.out.step hb)
      have HN_p := Lib.hid (H_p.out.step hb)
      have HN_q := Lib.hid (H_q.out.step hb)
      have HNB := Lib.hid (HB.out.trans (hb.mono HB.out.size))
      clear HB H_own H_l H_p H_q
      have H_own := HN_own
      have H_l := HN_l
      have H_p := HN_p
      have H_q := HN_q
      have HB := HNB
      clear HNB HN_own HN_l HN_p HN_q hb
      clear H_own H_l H_p H_q
      go_wp2_with fail
      refine (HLV.out _).mono ?_
      rintro e w16 ⟨rfl, hb⟩
      have HNB := Lib.hid (HB.out.trans (hb.mono HB.out.size))
      clear hb HB
      go_wp2
      go_ret
      exact ⟨rfl, HNB.out⟩
end Go.Proofs.Ytecefhoinggmgaa
