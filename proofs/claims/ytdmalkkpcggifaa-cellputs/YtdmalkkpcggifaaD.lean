/-
  The contracts of isValid, areValid and Check. No condition.
-/
import Derived.Test.YtdmalkkpcggifaaB
namespace Go.Proofs.Ytdmalkkpcggifaa
open Go.RowKit

/-- Is a cell valid, with so many levels left? -/
def okC : Nat → C → Bool
  | 0, _ => false
  | d + 1, .mk k n s l =>
    if k = 1 then s.toList.isEmpty && decide (l.length = 0)
    else if k = 2 then decide (n = 0) && (decide (l.length = 0) && decide (s.size ≤ 65535))
    else if k = 3 then decide (n = 0) && (s.toList.isEmpty && (decide (l.length ≤ 4095) && l.all (okC d)))
    else false
theorem LAt.slice {w : World} {B d : Nat} {u : Value} {l : List C} (h : LAt w B d u l) : ∃ A cap, u = .slice A l.length cap := by
  cases d with
  | zero => exact h.elim
  | succ d => obtain ⟨A, cap, e, _⟩ := h; exact ⟨A, cap, e⟩
theorem okC_succ (d : Nat) (k n : Int) (s : ByteArray) (l : List C) : okC (d + 1) (.mk k n s l) =
    if k = 1 then s.toList.isEmpty && decide (l.length = 0)
    else if k = 2 then decide (n = 0) && (decide (l.length = 0) && decide (s.size ≤ 65535))
    else if k = 3 then decide (n = 0) && (s.toList.isEmpty && (decide (l.length ≤ 4095) && l.all (okC d)))
    else false := rfl

set_option maxHeartbeats 1000000 in
theorem areValid38 (d : Nat)
    (ih : ∀ (left level : Nat) (ck cn : Int) (cs : ByteArray) (cl : List C) (u : Value) (w : World), LAt w w.heap.size d u cl → level + left = 17 →
      Calls Try.prog 27 #[.agg #[.int .i64 ck, .int .i64 cn, .string cs, u], .int .i64 level] w fun e w' => e = .returned (.bool (okC left (.mk ck cn cs cl))) ∧ Below w.heap.size w w')
    (left level : Nat) (l : List C) (v : Value) (w : World) (h : LAt w w.heap.size (d + 1) v l) (hl : level + left = 17) :
    Calls Try.prog 38 #[v, .int .i64 level] w fun e w' => e = .returned (.bool (l.all (okC left))) ∧ Below w.heap.size w w' := by
  have HL := Lib.hid h
  have HIH := Lib.hid ih
  obtain ⟨A, cap, rfl, h1, h2, h3⟩ := h
  unfold maxLen at h2
  obtain ⟨q, hq⟩ : ∃ q, l.all (okC left) = q := ⟨_, rfl⟩
  rw [hq]
  have HQ := Lib.hid hq
  clear hq h3 ih
  go_enter Try.func38, Try.ntmps38
  go_wp2_with fail
  go_loopw [9] (fun s9 wr => ∃ (k : Nat), k ≤ l.length ∧ s9 = .int .i64 k ∧ Below w.heap.size w wr ∧ Hid ((l.drop k).all (okC left) = q)) (fun s9 _ => l.length - (intOf s9).toNat)
  case atStart => exact ⟨0, Nat.zero_le _, rfl, Below.refl _ _, HQ.out⟩
  case round =>
    obtain ⟨k, hk, rfl, hbw, HK⟩ := hrel
    have HBW := Lib.hid hbw
    have hL2 := HL.out.step hbw
    clear hbw
    by_cases hlt : k < l.length
    · obtain ⟨A', cap', e', -, -, h3⟩ := hL2
      injection e' with e1 e2 e3
      subst e1 e3
      obtain ⟨b, o, rfl, hb, hr⟩ := h3 (by omega)
      have hd := drop_get l k hlt
      obtain ⟨u, hr, hwf, hsub⟩ := hr k hlt
      generalize l[k] = x at hd hr hwf hsub
      obtain ⟨xk, xn, xs, xl⟩ := x
      obtain ⟨c0, c1, c2, c3⟩ := hr
      simp only [k_mk, n_mk, s_mk, l_mk] at c0 c1 c2 c3 hsub
      obtain ⟨A2, cap2, rfl⟩ := hsub.slice
      generalize hxl : xl.length = xn2 at c3 hsub
      clear hxl
      have HX := Lib.hid (Box.new wr (.mk xk xn xs xl) (.slice A2 xn2 cap2))
      have HC := Lib.hid (HIH.out left level xk xn xs xl (.slice A2 xn2 cap2) (wr.alloc (.cells #[.int .i64 xk, .int .i64 xn, .string xs, .slice A2 xn2 cap2] 25)) (hsub.step HX.out.old) hl)
      have HS : Hid ((okC left (.mk xk xn xs xl) && (l.drop (k + 1)).all (okC left)) = q) := by
        unfold Hid
        rw [← HK.out, hd, List.all_cons]
      generalize okC left (.mk xk xn xs xl) = t at HC HS
      clear h3 e2 hwf hd HK hsub
      cases t with
      | false =>
        have hq : q = false := by rw [← HS.out]; rfl
        subst hq
        go_wp2_with (go_at_call 27; refine (HC.out).mono ?_; rintro e w' ⟨rfl, hbel⟩)
        have HY := Lib.hid (HBW.out.trans ((HX.out.step hbel).old.mono HBW.out.size))
        clear hbel
        go_wp2_with fail
        go_ret
        exact ⟨rfl, HY.out⟩
      | true =>
        have HN : Hid ((l.drop (k + 1)).all (okC left) = q) := by unfold Hid; rw [← HS.out]; simp
        clear HS
        go_wp2_with (go_at_call 27; refine (HC.out).mono ?_; rintro e w' ⟨rfl, hbel⟩)
        have HY := Lib.hid (HBW.out.trans ((HX.out.step hbel).old.mono HBW.out.size))
        clear hbel
        go_wp2_with fail
        go_roundw
        case rel => exact ⟨k + 1, by omega, by go_num, HY.out, HN.out⟩
        case measure => simp [intOf]; omega
    · have hq : q = true := by rw [← HK.out, List.drop_of_length_le (by omega)]; rfl
      subst hq
      clear HK
      go_wp2_with fail
      go_ret
      exact ⟨rfl, HBW.out⟩

set_option maxRecDepth 100000 in
set_option maxHeartbeats 1000000 in
theorem valid27 (d : Nat) : ∀ (left level : Nat) (ck cn : Int) (cs : ByteArray) (cl : List C) (u : Value) (w : World), LAt w w.heap.size d u cl → level + left = 17 →
      Calls Try.prog 27 #[.agg #[.int .i64 ck, .int .i64 cn, .string cs, u], .int .i64 level] w fun e w' => e = .returned (.bool (okC left (.mk ck cn cs cl))) ∧ Below w.heap.size w w' := by
  induction d with
  | zero => intro left level ck cn cs cl u w h; exact h.elim
  | succ d ih =>
    intro left level ck cn cs cl u w h hll
    have HB := Lib.hid (Box.new w (.mk ck cn cs cl) u)
    have HA := Lib.hid (fun (left' : Nat) (hl' : (level + 1) + left' = 17) => areValid38 d ih left' (level + 1) cl u (w.alloc (.cells #[.int .i64 ck, .int .i64 cn, .string cs, u] 25)) (h.step HB.out.old) hl')
    obtain ⟨A, cap, rfl, h1, h2, h3⟩ := h
    unfold maxLen at h2
    obtain ⟨q, hq⟩ : ∃ q, okC left (.mk ck cn cs cl) = q := ⟨_, rfl⟩
    rw [hq]
    have HQ := Lib.hid hq
    clear hq h3 ih
    cases left with
    | zero =>
      have hq : q = false := HQ.out.symm
      subst hq
      have hlv : (16 : Int) < level := by omega
      go_enter Try.func27, Try.ntmps27
      go_wp2_with fail
      go_ret
      exact ⟨rfl, HB.out.old⟩
    | succ left =>
      have hlv : ¬ (16 : Int) < level := by omega
      rw [Hid, okC_succ] at HQ
      by_cases k1 : ck = 1
      · subst k1
        rw [if_pos rfl] at HQ
        cases hE : cs.toList.isEmpty with
        | false =>
          have hq : q = false := by rw [← HQ, hE]; rfl
          subst hq
          clear HQ
          go_enter Try.func27, Try.ntmps27
          go_wp2_with fail
          go_ret
          exact ⟨rfl, HB.out.old⟩
        | true =>
          rw [hE, Bool.true_and] at HQ
          have hq : decide ((cl.length : Int) = 0) = q := by rw [← HQ]; congr 1; simp
          subst hq
          clear HQ
          go_enter Try.func27, Try.ntmps27
          go_wp2_with fail
          go_ret
          refine ⟨?_, HB.out.old⟩
          first | rfl | simp [BEq.beq]
      · rw [if_neg k1] at HQ
        by_cases k2 : ck = 2
        · subst k2
          rw [if_pos rfl] at HQ
          by_cases hn : cn = 0
          · subst hn
            by_cases hz : cl.length = 0
            · have hz' : ((cl.length : Int) == 0) = true := beq_iff_eq.2 (by omega)
              have hq : decide ((cs.size : Int) ≤ 65535) = q := by rw [← HQ, hz]; simp; omega
              subst hq
              clear HQ hz
              go_enter Try.func27, Try.ntmps27
              go_wp2_with fail
              go_ret
              exact ⟨rfl, HB.out.old⟩
            · have hz' : ((cl.length : Int) == 0) = false := beq_eq_false_iff_ne.2 (by omega)
              have hq : q = false := by rw [← HQ]; simp [hz]
              subst hq
              clear HQ hz
              go_enter Try.func27, Try.ntmps27
              go_wp2_with fail
              go_ret
              exact ⟨rfl, HB.out.old⟩
          · have hn' : (cn == 0) = false := by simpa using hn
            have hq : q = false := by rw [← HQ]; simp [hn]
            subst hq
            clear HQ
            go_enter Try.func27, Try.ntmps27
            go_wp2_with fail
            go_ret
            exact ⟨rfl, HB.out.old⟩
        · rw [if_neg k2] at HQ
          by_cases k3 : ck = 3
          · subst k3
            rw [if_pos rfl] at HQ
            by_cases hn : cn = 0
            · subst hn
              cases hE : cs.toList.isEmpty with
              | false =>
                have hq : q = false := by rw [← HQ, hE]; simp
                subst hq
                clear HQ
                go_enter Try.func27, Try.ntmps27
                go_wp2_with fail
                go_ret
                exact ⟨rfl, HB.out.old⟩
              | true =>
                by_cases hz : cl.length ≤ 4095
                · have hz' : (cl.length : Int) ≤ 4095 := by omega
                  have HC := Lib.hid (HA.out left (by omega))
                  have hq : cl.all (okC left) = q := by rw [← HQ, hE]; simp [hz]
                  rw [hq] at HC
                  clear HQ hz hq HA
                  have hlw : IntKind.i64.wrap ((level : Int) + 1) = ((level + 1 : Nat) : Int) := by rw [IntWalk.i64_in _ (by omega)]; omega
                  go_enter Try.func27, Try.ntmps27
                  go_wp2_with (go_at_call 38; refine (HC.out).mono ?_; rintro e w' ⟨rfl, hbel⟩)
                  have HX := Lib.hid (HB.out.step hbel)
                  clear hbel
                  go_wp2_with fail
                  go_ret
                  exact ⟨rfl, HX.out.old⟩
                · have hz' : ¬ (cl.length : Int) ≤ 4095 := by omega
                  have hq : q = false := by rw [← HQ]; simp [hz]
                  subst hq
                  clear HQ hz
                  go_enter Try.func27, Try.ntmps27
                  go_wp2_with fail
                  go_ret
                  exact ⟨rfl, HB.out.old⟩
            · have hn' : (cn == 0) = false := by simpa using hn
              have hq : q = false := by rw [← HQ]; simp [hn]
              subst hq
              clear HQ
              go_enter Try.func27, Try.ntmps27
              go_wp2_with fail
              go_ret
              exact ⟨rfl, HB.out.old⟩
          · rw [if_neg k3] at HQ
            subst HQ
            have k1' : (ck == 1) = false := by simpa using k1
            have k2' : (ck == 2) = false := by simpa using k2
            have k3' : (ck == 3) = false := by simpa using k3
            go_enter Try.func27, Try.ntmps27
            go_wp2_with fail
            go_ret
            exact ⟨rfl, HB.out.old⟩
end Go.Proofs.Ytdmalkkpcggifaa
