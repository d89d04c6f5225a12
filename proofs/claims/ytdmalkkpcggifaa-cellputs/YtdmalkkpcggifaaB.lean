/-
  The contracts of small, Same, and of the program's and the document's Check. No condition.
-/
import Derived.Test.YtdmalkkpcggifaaA
import Derived.StillTailTactics
namespace Go.Proofs.Ytdmalkkpcggifaa
open Go.RowKit

set_option maxHeartbeats 400000 in
theorem small7 (d : Nat) (ck cn : Int) (cs : ByteArray) (cl : List C) (u : Value) (w : World) (h : LAt w w.heap.size d u cl) (hs : cs.size ≤ 9223372036854775807) :
    Calls Try.prog 7 #[.agg #[.int .i64 ck, .int .i64 cn, .string cs, u]] w fun e w' => e = .returned (.bool (decide (0 < fewM 40 (.mk ck cn cs cl) 5000))) ∧ Below w.heap.size w w' := by
  have HB := Lib.hid (Box.new w (.mk ck cn cs cl) u)
  have HC := Lib.hid (few23 d 40 ck cn cs cl u 5000 (w.alloc (.cells #[.int .i64 ck, .int .i64 cn, .string cs, u] 25)) (h.step HB.out.old) hs (by omega) (by omega) (by omega))
  generalize fewM 40 (.mk ck cn cs cl) 5000 = r at HC ⊢
  clear h
  go_enter Try.func7, Try.ntmps7
  go_wp2_with (go_at_call 23; refine (HC.out).mono ?_; rintro e w' ⟨rfl, hbel⟩)
  have HX := Lib.hid (HB.out.step hbel)
  clear hbel
  go_wp2_with fail
  go_ret
  exact ⟨rfl, HX.out.old⟩

noncomputable def sameB (a b : C) : Bool := @decide (a = b) (Classical.propDecidable _)
noncomputable def sameLB (a b : List C) : Bool := @decide (a = b) (Classical.propDecidable _)
theorem sameB_iff {a b : C} : sameB a b = true ↔ a = b := by unfold sameB; simp
theorem sameLB_iff {a b : List C} : sameLB a b = true ↔ a = b := by unfold sameLB; simp
theorem sameB_self (a : C) : sameB a a = true := sameB_iff.2 rfl
theorem sameB_ne {a b : C} (h : a ≠ b) : sameB a b = false := by cases e : sameB a b; rfl; exact absurd (sameB_iff.1 e) h
theorem sameLB_ne {a b : List C} (h : a ≠ b) : sameLB a b = false := by cases e : sameLB a b; rfl; exact absurd (sameLB_iff.1 e) h
theorem sameB_mk (k n : Int) (s : ByteArray) (l l' : List C) : sameB (.mk k n s l) (.mk k n s l') = sameLB l l' := by
  rw [Bool.eq_iff_iff, sameB_iff, sameLB_iff]; simp
theorem sameLB_cons (x y : C) (l l' : List C) : sameLB (x :: l) (y :: l') = (sameB x y && sameLB l l') := by
  rw [Bool.eq_iff_iff, Bool.and_eq_true, sameLB_iff, sameB_iff, sameLB_iff]; simp

theorem bytes_ext {a b : ByteArray} (h : a.toList = b.toList) : a = b := by
  rw [ByteArray.toList_eq, ByteArray.toList_eq] at h
  cases a; cases b
  simp only at h
  congr 1
  exact Array.toList_inj.1 h

/-- Two boxed cells, in a later world. -/
structure Box2 (w : World) (c : C) (u : Value) (c' : C) (u' : Value) (w' : World) : Prop where
  below : Below (w.heap.size + 2) ((w.alloc (.cells (cellsV c u) 25)).alloc (.cells (cellsV c' u') 25)) w'
theorem Box2.new (w : World) (c : C) (u : Value) (c' : C) (u' : Value) : Box2 w c u c' u' ((w.alloc (.cells (cellsV c u) 25)).alloc (.cells (cellsV c' u') 25)) := ⟨Below.refl _ _⟩
theorem Box2.old {w : World} {c : C} {u : Value} {c' : C} {u' : Value} {w' : World} (h : Box2 w c u c' u' w') : Below w.heap.size w w' :=
  (((Below.refl _ w).alloc (Nat.le_refl _) _).alloc (by simp) _).trans (h.below.mono (by omega))
theorem Box2.size {w : World} {c : C} {u : Value} {c' : C} {u' : Value} {w' : World} (h : Box2 w c u c' u' w') : w.heap.size + 1 < w'.heap.size := by
  have := h.below.size
  simp at this
  omega
theorem Box2.step {w : World} {c : C} {u : Value} {c' : C} {u' : Value} {w' w'' : World} (h : Box2 w c u c' u' w') (hb : Below w'.heap.size w' w'') : Box2 w c u c' u' w'' :=
  ⟨h.below.trans (hb.mono h.size)⟩
theorem Box2.cell {w : World} {c : C} {u : Value} {c' : C} {u' : Value} {w' : World} (h : Box2 w c u c' u' w') (j : Nat) : w'.cell? ⟨w.heap.size, j, none⟩ = (cellsV c u)[j]? := by
  rw [h.below.cell (p := ⟨w.heap.size, j, none⟩) (show w.heap.size < w.heap.size + 2 by omega), World.cell?_alloc_past _ _ _ (by simp)]
  exact World.cell?_alloc_at _ 25 _ _ rfl
theorem Box2.cell' {w : World} {c : C} {u : Value} {c' : C} {u' : Value} {w' : World} (h : Box2 w c u c' u' w') (j : Nat) : w'.cell? ⟨w.heap.size + 1, j, none⟩ = (cellsV c' u')[j]? := by
  rw [h.below.cell (p := ⟨w.heap.size + 1, j, none⟩) (show w.heap.size + 1 < w.heap.size + 2 by omega)]
  have e : w.heap.size + 1 = (w.alloc (.cells (cellsV c u) 25)).heap.size := by simp
  rw [e]
  exact World.cell?_alloc_at _ 25 _ _ rfl
theorem Box2.drewN {w : World} {c : C} {u : Value} {c' : C} {u' : Value} {w' : World} (h : Box2 w c u c' u' w') (n : Nat) : Box2 w c u c' u' (w'.drewN n) := ⟨below_drewN h.below n⟩

set_option maxRecDepth 100000 in
set_option maxHeartbeats 1000000 in
theorem same15 (d : Nat) : ∀ (d' : Nat) (ak an : Int) (sa : ByteArray) (al : List C) (u : Value) (bk bn : Int) (sb : ByteArray) (bl : List C) (u' : Value) (w : World), LAt w w.heap.size d u al → LAt w w.heap.size d' u' bl →
    Calls Try.prog 15 #[.agg #[.int .i64 ak, .int .i64 an, .string sa, u], .agg #[.int .i64 bk, .int .i64 bn, .string sb, u']] w fun e w' => e = .returned (.bool (sameB (.mk ak an sa al) (.mk bk bn sb bl))) ∧ Below w.heap.size w w' := by
  induction d with
  | zero => intro d' ak an sa al u bk bn sb bl u' w h; exact h.elim
  | succ d ih =>
    intro d' ak an sa al u bk bn sb bl u' w h h'
    obtain ⟨d', rfl⟩ : ∃ e, d' = e + 1 := by cases d' with | zero => exact h'.elim | succ e => exact ⟨e, rfl⟩
    have HL := Lib.hid h
    have HL' := Lib.hid h'
    obtain ⟨A, cap, rfl, h1, h2, h3⟩ := h
    obtain ⟨A', cap', rfl, h1', h2', h3'⟩ := h'
    unfold maxLen at h2 h2'
    obtain ⟨q, hq⟩ : ∃ q, sameB (.mk ak an sa al) (.mk bk bn sb bl) = q := ⟨_, rfl⟩
    rw [hq]
    have HQ := Lib.hid hq
    have HB := Lib.hid (Box2.new w (.mk ak an sa al) (.slice A al.length cap) (.mk bk bn sb bl) (.slice A' bl.length cap'))
    have HIH := Lib.hid ih
    clear hq ih h3 h3'
    by_cases e1 : ¬ ak = bk
    · have hq0 : q = false := by rw [← HQ.out]; exact sameB_ne (fun e => by injection e; contradiction)
      subst hq0
      have e1' : (ak != bk) = true := by simpa using e1
      go_enter Try.func15, Try.ntmps15
      go_wp2_with fail
      go_ret
      exact ⟨rfl, HB.out.old⟩
    replace e1 := Decidable.not_not.1 e1
    by_cases e2 : ¬ an = bn
    · have hq0 : q = false := by rw [← HQ.out]; exact sameB_ne (fun e => by injection e; contradiction)
      subst hq0
      have e1' : (ak != bk) = false := by simpa using e1
      have e2' : (an != bn) = true := by simpa using e2
      subst e1
      go_enter Try.func15, Try.ntmps15
      go_wp2_with fail
      go_ret
      exact ⟨rfl, HB.out.old⟩
    replace e2 := Decidable.not_not.1 e2
    by_cases e3 : ¬ sa = sb
    · have hq0 : q = false := by rw [← HQ.out]; exact sameB_ne (fun e => by injection e; contradiction)
      subst hq0
      have e3' : ¬ sa.toList = sb.toList := fun e => e3 (bytes_ext e)
      subst e1 e2
      go_enter Try.func15, Try.ntmps15
      go_wp2_with fail
      go_ret
      exact ⟨rfl, HB.out.old⟩
    replace e3 := Classical.not_not.1 e3
    subst e1 e2 e3
    by_cases e4 : ¬ al.length = bl.length
    · have hq0 : q = false := by rw [← HQ.out]; exact sameB_ne (fun e => by injection e with _ _ _ e; exact e4 (by rw [e]))
      subst hq0
      have e4' : ((al.length : Int) != (bl.length : Int)) = true := by simp; omega
      go_enter Try.func15, Try.ntmps15
      go_wp2_with fail
      go_ret
      exact ⟨rfl, HB.out.old⟩
    replace e4 := Decidable.not_not.1 e4
    have e4' : ((al.length : Int) != (bl.length : Int)) = false := by simp; omega
    have HE := Lib.hid e4
    clear e4
    rw [Hid, sameB_mk] at HQ
    replace HQ := Lib.hid HQ
    go_enter Try.func15, Try.ntmps15
    go_wp2_with fail
    go_loopw [5] (fun s5 wr => ∃ (k : Nat), k ≤ al.length ∧ s5 = .int .i64 k ∧ Box2 w (.mk ak an sa al) (.slice A al.length cap) (.mk ak an sa bl) (.slice A' bl.length cap') wr ∧ Hid (sameLB (al.drop k) (bl.drop k) = q)) (fun s5 _ => al.length - (intOf s5).toNat)
    case atStart => exact ⟨0, Nat.zero_le _, rfl, HB.out, HQ.out⟩
    case round =>
      obtain ⟨k, hk, rfl, hbox, HK⟩ := hrel
      have b3 : wr.cell? ⟨w.heap.size, 3, none⟩ = some (.slice A al.length cap) := hbox.cell 3
      have b3' : wr.cell? ⟨w.heap.size + 1, 3, none⟩ = some (.slice A' bl.length cap') := hbox.cell' 3
      have HBX := Lib.hid hbox
      have hL2 := HL.out.step hbox.old
      have hL2' := HL'.out.step hbox.old
      have hsz := hbox.size
      clear hbox HB HL HL'
      by_cases hlt : k < al.length
      · have hlt' : k < bl.length := by have := HE.out; omega
        obtain ⟨A2, cap2, e', -, -, h3⟩ := hL2
        injection e' with e1 e2 e3
        subst e1 e3
        obtain ⟨A3, cap3, e', -, -, h3'⟩ := hL2'
        injection e' with e1 e2' e3
        subst e1 e3
        obtain ⟨b, o, rfl, hb, hr⟩ := h3 (by omega)
        obtain ⟨b', o', rfl, hb', hr'⟩ := h3' (by omega)
        have hd := drop_get al k hlt
        have hd' := drop_get bl k hlt'
        obtain ⟨u, hr, hwf, hsub⟩ := hr k hlt
        obtain ⟨u', hr', hwf', hsub'⟩ := hr' k hlt'
        generalize al[k] = x at hd hr hwf hsub
        generalize bl[k] = y at hd' hr' hwf' hsub'
        obtain ⟨xk, xn, xs, xl⟩ := x
        obtain ⟨yk, yn, ys, yl⟩ := y
        obtain ⟨c0, c1, c2, c3⟩ := hr
        obtain ⟨f0, f1, f2, f3⟩ := hr'
        simp only [k_mk, n_mk, s_mk, l_mk] at c0 c1 c2 c3 hsub f0 f1 f2 f3 hsub'
        have HCs := fun m => Lib.hid (HIH.out d' xk xn xs xl u yk yn ys yl u' (wr.drewN m) (hsub.step (below_drewN (Below.refl _ _) m)) (hsub'.step (below_drewN (Below.refl _ _) m)))
        have HS : Hid ((sameB (.mk xk xn xs xl) (.mk yk yn ys yl) && sameLB (al.drop (k + 1)) (bl.drop (k + 1))) = q) := by
          unfold Hid
          rw [← HK.out, hd, hd', sameLB_cons]
        generalize sameB (.mk xk xn xs xl) (.mk yk yn ys yl) = t at HCs HS
        clear h3 h3' e2 e2' hwf hwf' hd hd' HK hsub hsub'
        have HCC := Lib.hid HCs
        clear HCs
        cases t with
        | false =>
          have hq : q = false := by rw [← HS.out]; rfl
          subst hq
          go_wp2_with fail
          go_still_tail 10, (by kernel_rfl)
          change wpList _ _ _ _ _ (World.drew _)
          go_wp2_with fail
          refine ((HCC.out 1).out).mono ?_
          rintro e w' ⟨rfl, hbel⟩
          have HX := Lib.hid ((HBX.out.drewN 1).step hbel)
          clear hbel
          go_wp2_with fail
          go_ret
          exact ⟨rfl, HX.out.old⟩
        | true =>
          have HN : Hid (sameLB (al.drop (k + 1)) (bl.drop (k + 1)) = q) := by unfold Hid; rw [← HS.out]; simp
          clear HS
          go_wp2_with fail
          go_still_tail 10, (by kernel_rfl)
          change wpList _ _ _ _ _ (World.drew _)
          go_wp2_with fail
          refine ((HCC.out 1).out).mono ?_
          rintro e w' ⟨rfl, hbel⟩
          have HX := Lib.hid ((HBX.out.drewN 1).step hbel)
          clear hbel
          go_wp2_with fail
          go_roundw
          case rel => exact ⟨k + 1, by omega, by go_num, HX.out, HN.out⟩
          case measure => simp [intOf]; omega
      · have hq : q = true := by
          rw [← HK.out, List.drop_of_length_le (by omega), List.drop_of_length_le (by have := HE.out; omega)]; exact sameLB_iff.2 rfl
        subst hq
        clear HK
        go_wp2_with fail
        go_ret
        exact ⟨rfl, HBX.out.old⟩
end Go.Proofs.Ytdmalkkpcggifaa
