/-
  The contracts of the document's right, Right, Check, Put and Size. No condition but bounds on lengths.
-/
import Derived.Test.YtdmalkkpcggifaaPB
namespace Go.Proofs.Ytdmalkkpcggifaa
open Go.RowKit

set_option maxRecDepth 100000 in
set_option maxHeartbeats 3200000 in
theorem refRight36 (d : Nat) : ∀ (left : Nat) (ck cn : Int) (cs : ByteArray) (cl : List C) (u : Value) (w : World), LAt w w.heap.size d u cl → left ≤ 16 →
    Calls Try.prog 36 #[.agg #[.int .i64 ck, .int .i64 cn, .string cs, u], .int .i64 left] w fun e w' => e = .returned (.bool (okC left (.mk ck cn cs cl))) ∧ Below w.heap.size w w' := by
  induction d with
  | zero => intro left ck cn cs cl u w h; exact h.elim
  | succ d ih =>
    intro left ck cn cs cl u w h hll
    have HB := Lib.hid (Box.new w (.mk ck cn cs cl) u)
    have HL := Lib.hid h
    have HIH := Lib.hid ih
    obtain ⟨A, cap, rfl, h1, h2, h3⟩ := h
    unfold maxLen at h2
    obtain ⟨q, hq⟩ : ∃ q, okC left (.mk ck cn cs cl) = q := ⟨_, rfl⟩
    rw [hq]
    have HQ := Lib.hid hq
    clear hq h3 ih
    by_cases k1 : ck = 1
    · subst k1
      cases left with
      | zero =>
        have hq : q = false := HQ.out.symm
        subst hq
        go_enter Try.func36, Try.ntmps36
        go_wp2_with fail
        go_ret
        exact ⟨rfl, HB.out.old⟩
      | succ left =>
        have hl0 : (0 : Int) < ((left + 1 : Nat) : Int) := by omega
        rw [Hid, okC_succ, if_pos rfl] at HQ
        cases hE : cs.toList.isEmpty with
        | false =>
          have hq : q = false := by rw [← HQ, hE]; rfl
          subst hq
          clear HQ
          go_enter Try.func36, Try.ntmps36
          go_wp2_with fail
          go_ret
          exact ⟨rfl, HB.out.old⟩
        | true =>
          rw [hE, Bool.true_and] at HQ
          have hq : decide ((cl.length : Int) = 0) = q := by rw [← HQ]; congr 1; simp
          subst hq
          clear HQ
          go_enter Try.func36, Try.ntmps36
          go_wp2_with fail
          go_ret
          refine ⟨?_, HB.out.old⟩
          first | rfl | simp [BEq.beq]
    have k1' : (ck == 1) = false := by simpa using k1
    by_cases k2 : ck = 2
    · subst k2
      cases left with
      | zero =>
        have hq : q = false := HQ.out.symm
        subst hq
        go_enter Try.func36, Try.ntmps36
        go_wp2_with fail
        go_ret
        exact ⟨rfl, HB.out.old⟩
      | succ left =>
        have hl0 : (0 : Int) < ((left + 1 : Nat) : Int) := by omega
        rw [Hid, okC_succ, if_neg k1, if_pos rfl] at HQ
        by_cases hn : cn = 0
        · subst hn
          by_cases hz : (cs.size : Int) ≤ 65535
          · have hq : decide ((cl.length : Int) = 0) = q := by
              rw [← HQ]
              have : cs.size ≤ 65535 := by omega
              simp [this]
            subst hq
            clear HQ
            go_enter Try.func36, Try.ntmps36
            go_wp2_with fail
            go_ret
            refine ⟨?_, HB.out.old⟩
            first | rfl | simp [BEq.beq]
          · have hq : q = false := by rw [← HQ]; have : ¬ cs.size ≤ 65535 := by omega
                                      simp [this]
            subst hq
            clear HQ
            go_enter Try.func36, Try.ntmps36
            go_wp2_with fail
            go_ret
            exact ⟨rfl, HB.out.old⟩
        · have hn' : (cn == 0) = false := by simpa using hn
          have hq : q = false := by rw [← HQ]; simp [hn]
          subst hq
          clear HQ
          go_enter Try.func36, Try.ntmps36
          go_wp2_with fail
          go_ret
          exact ⟨rfl, HB.out.old⟩
    have k2' : (ck == 2) = false := by simpa using k2
    by_cases k3 : ck = 3
    · subst k3
      cases left with
      | zero =>
        have hq : q = false := HQ.out.symm
        subst hq
        go_enter Try.func36, Try.ntmps36
        go_wp2_with fail
        go_ret
        exact ⟨rfl, HB.out.old⟩
      | succ left =>
        have hl0 : ¬ ((left + 1 : Nat) : Int) < 1 := by omega
        rw [Hid, okC_succ, if_neg k1, if_neg k2, if_pos rfl] at HQ
        by_cases hn : ¬ cn = 0
        · have hn' : (cn != 0) = true := by simpa using hn
          have hq : q = false := by rw [← HQ]; simp [hn]
          subst hq
          clear HQ
          go_enter Try.func36, Try.ntmps36
          go_wp2_with fail
          go_ret
          exact ⟨rfl, HB.out.old⟩
        replace hn := Decidable.not_not.1 hn
        subst hn
        cases hE : cs.toList.isEmpty with
        | false =>
          have hq : q = false := by rw [← HQ, hE]; simp
          subst hq
          clear HQ
          go_enter Try.func36, Try.ntmps36
          go_wp2_with fail
          go_ret
          exact ⟨rfl, HB.out.old⟩
        | true =>
          by_cases hz : (4095 : Int) < (cl.length : Int)
          · have hq : q = false := by rw [← HQ]; have : ¬ cl.length ≤ 4095 := by omega
                                      simp [this]
            subst hq
            clear HQ
            go_enter Try.func36, Try.ntmps36
            go_wp2_with fail
            go_ret
            exact ⟨rfl, HB.out.old⟩
          have hq : cl.all (okC left) = q := by
            rw [← HQ, hE]
            have : cl.length ≤ 4095 := by omega
            simp [this]
          have HQ2 := Lib.hid hq
          clear HQ hq
          go_enter Try.func36, Try.ntmps36
          go_wp2_with fail
          go_loopw [5] (fun s5 wr => ∃ (k : Nat), k ≤ cl.length ∧ s5 = .int .i64 k ∧ Hid (Box w (.mk 3 0 cs cl) (.slice A cl.length cap) wr) ∧ Hid ((cl.drop k).all (okC left) = q)) (fun s5 _ => cl.length - (intOf s5).toNat)
          case atStart => exact ⟨0, Nat.zero_le _, rfl, HB, HQ2⟩
          case round =>
            obtain ⟨k, hk, rfl, HBX, HK⟩ := hrel
            have b3 : wr.cell? ⟨w.heap.size, 3, none⟩ = some (.slice A cl.length cap) := HBX.out.cell 3
            have hsz := HBX.out.size
            clear HB HQ2
            by_cases hlt : k < cl.length
            · obtain ⟨A', cap', e', -, -, h3⟩ := HL.out.step HBX.out.old
              injection e' with e1 e2 e3
              subst e1 e3
              obtain ⟨b, o, rfl, hb, hr⟩ := h3 (by omega)
              have hd := drop_get cl k hlt
              obtain ⟨u, hr, hwf, hsub⟩ := hr k hlt
              generalize cl[k] = x at hd hr hwf hsub
              obtain ⟨xk, xn, xs, xl⟩ := x
              obtain ⟨c0, c1, c2, c3⟩ := hr
              simp only [k_mk, n_mk, s_mk, l_mk] at c0 c1 c2 c3 hsub
              have HC := Lib.hid (HIH.out left xk xn xs xl u wr hsub (by omega))
              obtain ⟨A2, cap2, rfl⟩ := hsub.slice
              generalize hxl : xl.length = xn2 at c3 hsub HC
              clear hxl
              have HS : Hid ((okC left (.mk xk xn xs xl) && (cl.drop (k + 1)).all (okC left)) = q) := by
                unfold Hid
                rw [← HK.out, hd, List.all_cons]
              generalize okC left (.mk xk xn xs xl) = t at HC HS
              clear h3 e2 hwf hd HK hsub
              cases t with
              | false =>
                have hq : q = false := by rw [← HS.out]; rfl
                subst hq
                go_wp2_with (go_at_call 36; refine (HC.out).mono ?_; rintro e w' ⟨rfl, hbel⟩)
                have HY := Lib.hid (HBX.out.step hbel).old
                clear hbel
                go_wp2_with fail
                go_ret
                exact ⟨rfl, HY.out⟩
              | true =>
                have HN : Hid ((cl.drop (k + 1)).all (okC left) = q) := by unfold Hid; rw [← HS.out]; simp
                clear HS
                go_wp2_with (go_at_call 36; refine (HC.out).mono ?_; rintro e w' ⟨rfl, hbel⟩)
                have HY := Lib.hid (HBX.out.step hbel)
                clear hbel
                go_wp2_with fail
                go_roundw
                case rel => exact ⟨k + 1, by omega, by go_num, HY, HN⟩
                case measure => simp [intOf]; omega
            · have hq : q = true := by rw [← HK.out, List.drop_of_length_le (by omega)]; rfl
              subst hq
              clear HK
              go_wp2_with fail
              go_ret
              exact ⟨rfl, HBX.out.old⟩
    · have k3' : (ck == 3) = false := by simpa using k3
      have hq : q = false := by
        rw [← HQ.out]
        cases left with
        | zero => rfl
        | succ left => rw [okC_succ, if_neg k1, if_neg k2, if_neg k3]
      subst hq
      clear HQ
      go_enter Try.func36, Try.ntmps36
      go_wp2_with fail
      go_ret
      exact ⟨rfl, HB.out.old⟩

set_option maxHeartbeats 400000 in
theorem refRight25 (d : Nat) (ck cn : Int) (cs : ByteArray) (cl : List C) (u : Value) (w : World) (h : LAt w w.heap.size d u cl) :
    Calls Try.prog 25 #[.agg #[.int .i64 ck, .int .i64 cn, .string cs, u]] w fun e w' => e = .returned (.bool (okC 16 (.mk ck cn cs cl))) ∧ Below w.heap.size w w' := by
  have HB := Lib.hid (Box.new w (.mk ck cn cs cl) u)
  have HC := Lib.hid (refRight36 d 16 ck cn cs cl u (w.alloc (.cells #[.int .i64 ck, .int .i64 cn, .string cs, u] 25)) (h.step HB.out.old) (by omega))
  generalize okC 16 (.mk ck cn cs cl) = t at HC ⊢
  clear h
  go_enter Try.func25, Try.ntmps25
  go_wp2_with (go_at_call 36; refine (HC.out).mono ?_; rintro e w' ⟨rfl, hbel⟩)
  have HX := Lib.hid (HB.out.step hbel)
  clear hbel
  go_wp2_with fail
  go_ret
  exact ⟨rfl, HX.out.old⟩

set_option maxHeartbeats 400000 in
theorem refCheck12 (d : Nat) (ck cn : Int) (cs : ByteArray) (cl : List C) (u : Value) (w : World) (h : LAt w w.heap.size d u cl) :
    Calls Try.prog 12 #[.agg #[.int .i64 ck, .int .i64 cn, .string cs, u]] w fun e w' => e = .returned (.int .i64 (if okC 16 (.mk ck cn cs cl) then 0 else 2)) ∧ Below w.heap.size w w' := by
  have HB := Lib.hid (Box.new w (.mk ck cn cs cl) u)
  have HC := Lib.hid (refRight25 d ck cn cs cl u (w.alloc (.cells #[.int .i64 ck, .int .i64 cn, .string cs, u] 25)) (h.step HB.out.old))
  generalize okC 16 (.mk ck cn cs cl) = t at HC ⊢
  clear h
  cases t with
  | true =>
    go_enter Try.func12, Try.ntmps12
    go_wp2_with (go_at_call 25; refine (HC.out).mono ?_; rintro e w' ⟨rfl, hbel⟩)
    have HX := Lib.hid (HB.out.step hbel)
    clear hbel
    go_wp2_with fail
    go_ret
    exact ⟨rfl, HX.out.old⟩
  | false =>
    go_enter Try.func12, Try.ntmps12
    go_wp2_with (go_at_call 25; refine (HC.out).mono ?_; rintro e w' ⟨rfl, hbel⟩)
    have HX := Lib.hid (HB.out.step hbel)
    clear hbel
    go_wp2_with fail
    go_ret
    exact ⟨rfl, HX.out.old⟩

set_option maxRecDepth 100000 in
set_option maxHeartbeats 800000 in
theorem refPut10 (d : Nat) (ck cn : Int) (cs : ByteArray) (cl : List C) (u : Value) (w : World) (h : LAt w w.heap.size d u cl) (hn0 : -9223372036854775808 ≤ cn) (hn1 : cn ≤ 9223372036854775807)
    (hlen : okC 16 (.mk ck cn cs cl) = true → (encC 16 (.mk ck cn cs cl)).length ≤ 1000000) :
    Calls Try.prog 10 #[.agg #[.int .i64 ck, .int .i64 cn, .string cs, u]] w fun e w' => e = .returned (.tuple #[.string (putS (.mk ck cn cs cl)), .int .i64 (putE (.mk ck cn cs cl))]) ∧ Below w.heap.size w w' := by
  have HB := Lib.hid (Box.new w (.mk ck cn cs cl) u)
  have HC := Lib.hid (refRight25 d ck cn cs cl u (w.alloc (.cells #[.int .i64 ck, .int .i64 cn, .string cs, u] 25)) (h.step HB.out.old))
  have HL := Lib.hid h
  unfold putS putE
  cases hok : okC 16 (.mk ck cn cs cl) with
  | false =>
    rw [hok] at HC
    clear h hok hlen
    go_enter Try.func10, Try.ntmps10
    go_wp2_with (go_at_call 25; refine (HC.out).mono ?_; rintro e w' ⟨rfl, hbel⟩)
    have HX := Lib.hid (HB.out.step hbel)
    clear hbel
    go_wp2_with fail
    go_ret2
    exact ⟨rfl, HX.out.old⟩
  | true =>
    rw [hok] at HC
    have HA := Lib.hid (fun (w : World) (hL : LAt w w.heap.size d u cl) => refPuts26 16 d ck cn cs cl u w hok hL hn0 hn1 (hlen hok))
    rw [if_pos rfl, if_pos rfl]
    obtain ⟨es, hes⟩ : ∃ es, (⟨(encC 16 (.mk ck cn cs cl)).toArray⟩ : ByteArray) = es := ⟨_, rfl⟩
    rw [hes] at HA ⊢
    clear h hok hlen hes
    go_enter Try.func10, Try.ntmps10
    go_wp2_with fail
    refine (HC.out).mono ?_
    rintro e w' ⟨rfl, hbel⟩
    have hX := HB.out.step hbel
    have b0 : w'.cell? ⟨w.heap.size, 0, none⟩ = some (.int .i64 ck) := hX.cell 0
    have b1 : w'.cell? ⟨w.heap.size, 1, none⟩ = some (.int .i64 cn) := hX.cell 1
    have b2 : w'.cell? ⟨w.heap.size, 2, none⟩ = some (.string cs) := hX.cell 2
    have b3 : w'.cell? ⟨w.heap.size, 3, none⟩ = some u := hX.cell 3
    have HX := Lib.hid hX
    have HAC := Lib.hid (HA.out w' (HL.out.step hX.old))
    clear hbel hX HA HC
    go_wp2_with fail
    refine (HAC.out).mono ?_
    rintro e w3 ⟨rfl, hb3⟩
    have HY := Lib.hid (HX.out.step hb3)
    clear hb3 HX HAC
    go_wp2_with fail
    go_ret2
    exact ⟨rfl, HY.out.old⟩

set_option maxHeartbeats 400000 in
theorem refSize14 (d : Nat) (ck cn : Int) (cs : ByteArray) (cl : List C) (u : Value) (w : World) (h : LAt w w.heap.size d u cl) (hn0 : -9223372036854775808 ≤ cn) (hn1 : cn ≤ 9223372036854775807)
    (hlen : okC 16 (.mk ck cn cs cl) = true → (encC 16 (.mk ck cn cs cl)).length ≤ 1000000) :
    Calls Try.prog 14 #[.agg #[.int .i64 ck, .int .i64 cn, .string cs, u]] w fun e w' => e = .returned (.int .i64 ((putS (.mk ck cn cs cl)).size : Int)) ∧ Below w.heap.size w w' := by
  have HB := Lib.hid (Box.new w (.mk ck cn cs cl) u)
  have HC := Lib.hid (refPut10 d ck cn cs cl u (w.alloc (.cells #[.int .i64 ck, .int .i64 cn, .string cs, u] 25)) (h.step HB.out.old) hn0 hn1 hlen)
  generalize putS (.mk ck cn cs cl) = ps at HC ⊢
  generalize putE (.mk ck cn cs cl) = pe at HC
  clear h hlen
  go_enter Try.func14, Try.ntmps14
  go_wp2_with (go_at_call 10; refine (HC.out).mono ?_; rintro e w' ⟨rfl, hbel⟩)
  have HX := Lib.hid (HB.out.step hbel)
  clear hbel
  go_wp2_with fail
  go_ret
  exact ⟨rfl, HX.out.old⟩
end Go.Proofs.Ytdmalkkpcggifaa
