/-
  How deep a cell is; which cells may begin a batch. No condition.
-/
import Derived.Test.YtjanddnlhaionaaGreatDoorOx0
set_option maxRecDepth 100000
namespace Go.Proofs.YtjanddnlhaionaaGreatDoor
open Go.RowKit
open L4 (C LAt okC Box)

mutual
def depC : C → Nat
  | .mk _ _ _ l => depL l + 1
def depL : List C → Nat
  | [] => 0
  | x :: l => max (depC x) (depL l)
end
theorem depC_mk (k n : Int) (s : ByteArray) (l : List C) : depC (.mk k n s l) = depL l + 1 := by rw [depC]
theorem depL_nil : depL [] = 0 := by rw [depL]
theorem depL_cons (x : C) (l : List C) : depL (x :: l) = max (depC x) (depL l) := by rw [depL]
theorem depL_snoc : ∀ (l : List C) (x : C), depL (l ++ [x]) = max (depL l) (depC x)
  | [], x => by simp [depL_cons, depL_nil]
  | y :: l, x => by rw [List.cons_append, depL_cons, depL_snoc l x, depL_cons, Nat.max_assoc]
theorem depL_mem : ∀ {l : List C} {x : C}, x ∈ l → depC x ≤ depL l
  | y :: l, x, h => by
    rw [depL_cons]
    rcases List.mem_cons.1 h with rfl | h
    · exact Nat.le_max_left _ _
    · exact Nat.le_trans (depL_mem h) (Nat.le_max_right _ _)
theorem depL_take (l : List C) (k : Nat) (h : k < l.length) : depL (l.take (k + 1)) = max (depL (l.take k)) (depC l[k]) := by
  rw [List.take_succ_eq_append_getElem h, depL_snoc]
theorem depL_take_le (l : List C) (k : Nat) : depL (l.take k) ≤ depL l := by
  induction l generalizing k with
  | nil => simp [depL_nil]
  | cons x l ih =>
    cases k with
    | zero => simp [depL_nil]
    | succ k => rw [List.take_succ_cons, depL_cons, depL_cons]; have := ih k; omega
theorem depL_all : ∀ {l : List C} {n : Nat}, (∀ x ∈ l, depC x ≤ n) → depL l ≤ n
  | [], n, _ => by rw [depL_nil]; exact Nat.zero_le _
  | x :: l, n, h => by rw [depL_cons]; have := h x (by simp); have := depL_all (fun y hy => h y (List.mem_cons_of_mem _ hy)); omega
theorem okC_dep : ∀ (d : Nat) (c : C), okC d c = true → depC c ≤ d
  | 0, c, h => by cases c; cases h
  | d + 1, .mk k n s l, h => by
    rw [L4.okC_succ] at h
    rw [depC_mk]
    have : depL l ≤ d := by
      split at h
      · simp at h; rw [h.2, depL_nil]; exact Nat.zero_le _
      · split at h
        · simp at h; rw [h.2.1, depL_nil]; exact Nat.zero_le _
        · split at h
          · simp at h
            exact depL_all fun x hx => okC_dep d x (h.2.2.2 x hx)
          · cases h
    omega

set_option maxHeartbeats 1000000 in
theorem depth130 (d : Nat) : ∀ (ck cn : Int) (cs : ByteArray) (cl : List C) (u : Value) (w : World), LAt w w.heap.size d u cl → depC (.mk ck cn cs cl) ≤ 1000000 →
    Calls Tryz.prog 130 #[.agg #[.int .i64 ck, .int .i64 cn, .string cs, u]] w fun e w' => e = .returned (.int .i64 (depC (.mk ck cn cs cl) : Int)) ∧ Below w.heap.size w w' := by
  induction d with
  | zero => intro ck cn cs cl u w h; exact h.elim
  | succ d ih =>
    intro ck cn cs cl u w h hdd
    have HB := Lib.hid (Box.new w (.mk ck cn cs cl) u)
    have HL := Lib.hid (h.step HB.out.old)
    have HIH := Lib.hid ih
    obtain ⟨A, cap, rfl, h1, h2, h3⟩ := h
    unfold maxLen at h2
    rw [depC_mk] at hdd ⊢
    have HD := Lib.hid hdd
    obtain ⟨q, hq⟩ : ∃ q, depL cl = q := ⟨_, rfl⟩
    have HQ := Lib.hid hq
    rw [hq]
    have hq1 : IntKind.i64.wrap ((q : Int) + 1) = ((q + 1 : Nat) : Int) := by rw [IntKind.wrap_i64]; omega
    clear h3 ih hdd hq
    obtain ⟨w1, hw1⟩ : ∃ w1, w.alloc (.cells #[.int .i64 ck, .int .i64 cn, .string cs, .slice A cl.length cap] 38) = w1 := ⟨_, rfl⟩
    have HW1 := Lib.hid hw1
    have HL1 : Hid (LAt w1 w1.heap.size (d + 1) (.slice A cl.length cap) cl) := by rw [← hw1]; exact HL.out
    have HB1 : Hid (Below w.heap.size w w1) := by rw [← hw1]; exact HB.out.old
    clear hw1 HL HB
    go_enter Tryz.func130, Tryz.ntmps130
    go_wp2_with fail
    go_loopw [3, 9] (fun s3 s9 wr => ∃ (k : Nat), k ≤ cl.length ∧ s9 = .int .i64 k ∧ s3 = .int .i64 (depL (cl.take k) : Int) ∧ Below w.heap.size w wr ∧ Below w1.heap.size w1 wr) (fun _ s9 _ => cl.length - (intOf s9).toNat)
    case atStart => exact ⟨0, Nat.zero_le _, rfl, by simp [depL_nil], by rw [HW1.out]; exact HB1.out, by rw [HW1.out]; exact Below.refl _ _⟩
    case round =>
      obtain ⟨k, hk, rfl, rfl, hb0, hbw⟩ := hrel
      have HBW := Lib.hid hbw
      have HB0 := Lib.hid hb0
      clear hb0
      have hL2 := HL1.out.step hbw
      clear hbw
      by_cases hlt : k < cl.length
      · obtain ⟨A', cap', e', -, -, h3⟩ := hL2
        injection e' with e1 e2 e3
        subst e1 e3
        obtain ⟨b, o, rfl, hb, hr⟩ := h3 (by omega)
        obtain ⟨u, hr, hwf, hsub⟩ := hr k hlt
        have htk := depL_take cl k hlt
        have hmx : depC cl[k] ≤ 1000000 := by have := depL_mem (List.getElem_mem hlt); have := HD.out; omega
        have hmt : depL (cl.take k) ≤ 1000000 := by have := depL_take_le cl k; have := HD.out; omega
        generalize cl[k] = x at hr hwf hsub htk hmx
        obtain ⟨xk, xn, xs, xl⟩ := x
        obtain ⟨c0, c1, c2, c3⟩ := hr
        simp only [L4.k_mk, L4.n_mk, L4.s_mk, L4.l_mk] at c0 c1 c2 c3 hsub
        obtain ⟨A2, cap2, rfl⟩ := hsub.slice
        generalize hxl : xl.length = xn2 at c3 hsub
        clear hxl
        have HX := Lib.hid (Box.new wr (.mk xk xn xs xl) (.slice A2 xn2 cap2))
        have HC := Lib.hid (HIH.out xk xn xs xl (.slice A2 xn2 cap2) (wr.alloc (.cells #[.int .i64 xk, .int .i64 xn, .string xs, .slice A2 xn2 cap2] 38)) (hsub.step HX.out.old) hmx)
        have HTK := Lib.hid htk
        generalize depC (.mk xk xn xs xl) = y at HC HTK hmx
        obtain ⟨z, hz⟩ : ∃ z, depL (cl.take k) = z := ⟨_, rfl⟩
        have HZ := Lib.hid hz
        rw [hz] at hmt ⊢
        have hmax : (if (z : Int) < (y : Int) then (y : Int) else (z : Int)) = ((max z y : Nat) : Int) := by split <;> omega
        clear h3 e2 hwf hsub htk hz
        go_wp2_with (go_at_call 130; refine (HC.out).mono ?_; rintro e w' ⟨rfl, hbel⟩)
        have HY := Lib.hid ((HX.out.step hbel).old)
        clear hbel
        have HM : Hid ((if (z : Int) < (y : Int) then (y : Int) else (z : Int)) = ((depL (cl.take (k + 1)) : Nat) : Int)) := by unfold Hid; rw [HTK.out, HZ.out]; exact hmax
        go_roundw
        case rel =>
          refine ⟨k + 1, by omega, by go_num, ?_, HB0.out.trans (HY.out.mono HB0.out.size), HBW.out.trans (HY.out.mono HBW.out.size)⟩
          rw [← HM.out]
          simp
        case measure => simp [intOf]; omega
      · have hk' : k = cl.length := by omega
        subst hk'
        rw [List.take_length, HQ.out]
        go_wp2_with fail
        go_ret
        refine ⟨?_, HB0.out⟩
        show Ending.returned (.int .i64 ((q : Int) + 1)) = _
        rw [Int.natCast_add]
        rfl

theorem mayBegin77 (d : Nat) (ck cn : Int) (cs : ByteArray) (cl : List C) (u : Value) (w : World) (h : LAt w w.heap.size d u cl) :
    Calls Tryz.prog 77 #[.agg #[.int .i64 ck, .int .i64 cn, .string cs, u]] w fun e w' => e = .returned (.bool (okC 16 (.mk ck cn cs cl) && decide (depC (.mk ck cn cs cl) ≤ 14))) ∧ Below w.heap.size w w' := by
  have HB := Lib.hid (Box.new w (.mk ck cn cs cl) u)
  have HC := Lib.hid (L4.check11 d ck cn cs cl u (w.alloc (.cells #[.int .i64 ck, .int .i64 cn, .string cs, u] 38)) (h.step HB.out.old))
  have HD := Lib.hid fun w2 (hb : Below (w.alloc (.cells #[.int .i64 ck, .int .i64 cn, .string cs, u] 38)).heap.size (w.alloc (.cells #[.int .i64 ck, .int .i64 cn, .string cs, u] 38)) w2) hq => depth130 d ck cn cs cl u w2 ((h.step HB.out.old).step hb) hq
  obtain ⟨A, cap, rfl⟩ := h.slice
  have HO := Lib.hid (okC_dep 16 (.mk ck cn cs cl))
  clear h
  generalize okC 16 (.mk ck cn cs cl) = t at HC HO ⊢
  generalize depC (.mk ck cn cs cl) = q at HD HO ⊢
  cases t with
  | false =>
    show Calls _ _ _ _ fun e w' => e = .returned (.bool false) ∧ _
    clear HD HO
    go_enter Tryz.func77, Tryz.ntmps77
    go_wp2_with (go_at_call 86; refine HC.out.mono ?_; rintro e w2 ⟨rfl, hb⟩; have HX := Lib.hid (HB.out.step hb).old; clear hb)
    go_ret
    exact ⟨rfl, HX.out⟩
  | true =>
    have hq := HO.out rfl
    have hd : decide ((q : Int) ≤ 14) = decide (q ≤ 14) := by congr 1; simp; omega
    have HD2 := Lib.hid fun w2 hb => HD.out w2 hb (by omega)
    clear HD HO
    go_enter Tryz.func77, Tryz.ntmps77
    go_wp2_with fail
    refine HC.out.mono ?_
    rintro e w2 ⟨rfl, hb⟩
    have HD3 := Lib.hid (HD2.out w2 hb)
    have hX := HB.out.step hb
    have b0 : w2.cell? ⟨w.heap.size, 0, none⟩ = some (.int .i64 ck) := hX.cell 0
    have b1 : w2.cell? ⟨w.heap.size, 1, none⟩ = some (.int .i64 cn) := hX.cell 1
    have b2 : w2.cell? ⟨w.heap.size, 2, none⟩ = some (.string cs) := hX.cell 2
    have b3 : w2.cell? ⟨w.heap.size, 3, none⟩ = some (.slice A cl.length cap) := hX.cell 3
    have HB2 := Lib.hid hX
    clear hb HD2 HC hX
    go_wp2_with fail
    refine HD3.out.mono ?_
    rintro e w3 ⟨rfl, hb3⟩
    have HX := Lib.hid (HB2.out.step hb3).old
    clear hb3 HD3 HB2 b0 b1 b2 b3
    go_wp2_with fail
    go_ret
    exact ⟨rfl, HX.out⟩
end Go.Proofs.YtjanddnlhaionaaGreatDoor
