/-
  The weight of a cell, as the shelf's law counts it. No condition.
-/
import Derived.Test.YtjanddnlhaionaaGreatDoorSR
import Derived.Test.YtjanddnlhaionaaGreatDoorSO
set_option maxRecDepth 100000
namespace Go.Proofs.YtjanddnlhaionaaGreatDoor
open Go.RowKit
open L4 (C LAt LIn LNF Wf okC encC putS putE Box fewF few_stop cntC cntL cntC_mk cntL_cons cntL_nil drop_get)

def wgM : Nat → C → Int → Int
  | 0, _, _ => 0
  | d + 1, c, left => if left - 1 - c.s.size < 1 then 0 else c.l.foldl (fewF (wgM d)) (left - 1 - c.s.size)
theorem wgM_le : ∀ (d : Nat) (c : C) (left : Int), 0 ≤ left → 0 ≤ wgM d c left ∧ wgM d c left ≤ left
  | 0, _, _, h => ⟨Int.le_refl _, h⟩
  | d + 1, c, left, h => by
    unfold wgM
    split
    · exact ⟨Int.le_refl _, h⟩
    · rename_i h1
      have key : ∀ (l : List C) (r : Int), 0 ≤ r → 0 ≤ l.foldl (fewF (wgM d)) r ∧ l.foldl (fewF (wgM d)) r ≤ r := by
        intro l
        induction l with
        | nil => intro r hr; exact ⟨hr, Int.le_refl _⟩
        | cons x l ih =>
          intro r hr
          rw [List.foldl_cons]
          have hx : 0 ≤ fewF (wgM d) r x ∧ fewF (wgM d) r x ≤ r := by
            unfold fewF
            split
            · exact wgM_le d x r hr
            · exact ⟨hr, Int.le_refl _⟩
          have := ih _ hx.1
          omega
      have := key c.l (left - 1 - c.s.size) (by omega)
      omega
termination_by d => d

theorem wgM_succ (d : Nat) (k n : Int) (s : ByteArray) (l : List C) (left : Int) : wgM (d + 1) (.mk k n s l) left = if left - 1 - (s.size : Int) < 1 then 0 else l.foldl (fewF (wgM d)) (left - 1 - (s.size : Int)) := rfl

theorem wg_cnt (d : Nat) : ∀ (c : C) (left : Int), 0 < wgM d c left → (cntC c : Int) ≤ left - wgM d c left := by
  induction d with
  | zero => intro c left h; unfold wgM at h; omega
  | succ d ih =>
    intro c left h
    obtain ⟨k, n, s, l⟩ := c
    rw [wgM_succ] at h ⊢
    split at h
    · omega
    rename_i h1
    rw [if_neg h1, cntC_mk]
    have key : ∀ (l : List C) (r : Int), 0 < l.foldl (fewF (wgM d)) r → ((cntL l : Nat) : Int) ≤ r - l.foldl (fewF (wgM d)) r := by
      intro l
      induction l with
      | nil => intro r _; rw [cntL_nil]; simp
      | cons x l ihl =>
        intro r h3
        rw [List.foldl_cons] at h3 ⊢
        rw [cntL_cons]
        have a := ihl _ h3
        by_cases hr : 0 < r
        · have e : fewF (wgM d) r x = wgM d x r := by unfold fewF; rw [if_pos hr]
          rw [e] at a h3 ⊢
          by_cases hp : 0 < wgM d x r
          · have := ih x r hp
            omega
          · rw [few_stop _ _ _ hp] at h3; omega
        · have e : fewF (wgM d) r x = r := by unfold fewF; rw [if_neg hr]
          rw [e, few_stop _ _ _ hr] at h3
          omega
    have := key l _ h
    omega

theorem wg_esz (d : Nat) : ∀ (c : C) (left : Int), 0 < wgM d c left → (esz c : Int) ≤ 9 * (left - wgM d c left) := by
  induction d with
  | zero => intro c left h; unfold wgM at h; omega
  | succ d ih =>
    intro c left h
    obtain ⟨k, n, s, l⟩ := c
    rw [wgM_succ] at h ⊢
    split at h
    · omega
    rename_i h1
    rw [if_neg h1, esz_mk]
    have key : ∀ (l : List C) (r : Int), 0 < l.foldl (fewF (wgM d)) r → ((eszL l : Nat) : Int) ≤ 9 * (r - l.foldl (fewF (wgM d)) r) := by
      intro l
      induction l with
      | nil => intro r _; rw [eszL_nil]; simp
      | cons x l ihl =>
        intro r h3
        rw [List.foldl_cons] at h3 ⊢
        rw [eszL_cons]
        have a := ihl _ h3
        by_cases hr : 0 < r
        · have e : fewF (wgM d) r x = wgM d x r := by unfold fewF; rw [if_pos hr]
          rw [e] at a h3 ⊢
          by_cases hp : 0 < wgM d x r
          · have := ih x r hp
            omega
          · rw [few_stop _ _ _ hp] at h3; omega
        · have e : fewF (wgM d) r x = r := by unfold fewF; rw [if_neg hr]
          rw [e, few_stop _ _ _ hr] at h3
          omega
    have := key l _ h
    omega

set_option maxHeartbeats 1000000 in
theorem weight66 (d : Nat) : ∀ (deep : Nat) (ck cn : Int) (cs : ByteArray) (cl : List C) (u : Value) (left : Int) (w : World), LAt w w.heap.size d u cl → cs.size ≤ 9223372036854775807 → deep ≤ 30 → 0 < left → left ≤ 1000 →
    Calls Tryz.prog 66 #[.agg #[.int .i64 ck, .int .i64 cn, .string cs, u], .int .i64 left, .int .i64 deep] w fun e w' => e = .returned (.int .i64 (wgM deep (.mk ck cn cs cl) left)) ∧ Below w.heap.size w w' := by
  induction d with
  | zero => intro deep ck cn cs cl u left w h; exact h.elim
  | succ d ih =>
    intro deep ck cn cs cl u left w h hs1 hdeep hl0 hl1
    have HL := Lib.hid h
    obtain ⟨A, cap, rfl, h1, h2, h3⟩ := h
    unfold maxLen at h2
    obtain ⟨q, hq⟩ : ∃ q, wgM deep (.mk ck cn cs cl) left = q := ⟨_, rfl⟩
    rw [hq]
    have HQ := Lib.hid hq
    have HB := Lib.hid (Box.new w (.mk ck cn cs cl) (.slice A cl.length cap))
    have HIH := Lib.hid ih
    clear hq ih h3
    by_cases hdp : (deep : Int) < 1
    · have h0 : deep = 0 := by omega
      subst h0
      have hq0 : q = 0 := HQ.out.symm
      subst hq0
      go_enter Tryz.func66, Tryz.ntmps66
      go_wp2_with fail
      go_ret
      exact ⟨rfl, HB.out.old⟩
    · obtain ⟨dp, rfl⟩ : ∃ dp, deep = dp + 1 := ⟨deep - 1, by omega⟩
      by_cases hlf : left - 1 - (cs.size : Int) < 1
      · have hq0 : q = 0 := by rw [← HQ.out, wgM_succ, if_pos hlf]
        subst hq0
        go_enter Tryz.func66, Tryz.ntmps66
        go_wp2_with fail
        go_ret
        exact ⟨rfl, HB.out.old⟩
      · have HQ2 : Hid (cl.foldl (fewF (wgM dp)) (left - 1 - (cs.size : Int)) = q) := by unfold Hid; rw [← HQ.out, wgM_succ, if_neg hlf]
        clear HQ
        go_enter Tryz.func66, Tryz.ntmps66
        go_wp2_with fail
        go_loopw [1, 7] (fun s1 s7 wr => ∃ (k : Nat) (r : Int), k ≤ cl.length ∧ s7 = .int .i64 k ∧ s1 = .int .i64 r ∧ 0 ≤ r ∧ r ≤ 1000 ∧ Box w (.mk ck cn cs cl) (.slice A cl.length cap) wr ∧ Hid ((cl.drop k).foldl (fewF (wgM dp)) r = q)) (fun _ s7 _ => cl.length - (intOf s7).toNat)
        case atStart => exact ⟨0, _, Nat.zero_le _, rfl, rfl, by omega, by omega, HB.out, HQ2.out⟩
        case round =>
          obtain ⟨k, r, hk, rfl, rfl, hr0, hr1, hbox, HK⟩ := hrel
          have b3 : wr.cell? ⟨w.heap.size, 3, none⟩ = some (.slice A cl.length cap) := hbox.cell 3
          have HBX := Lib.hid hbox
          have hL2 := HL.out.step hbox.old
          have hsz := hbox.size
          clear hbox HB HL
          by_cases hlt : k < cl.length
          · obtain ⟨A', cap', e', -, -, h3⟩ := hL2
            injection e' with e1 e2 e3
            subst e1 e3
            obtain ⟨b, o, rfl, hb, hr⟩ := h3 (by omega)
            have hd := drop_get cl k hlt
            obtain ⟨u, hr, hwf, hsub⟩ := hr k hlt
            generalize cl[k] = x at hd hr hwf hsub
            obtain ⟨xk, xn, xs, xl⟩ := x
            obtain ⟨c0, c1, c2, c3⟩ := hr
            have hxs := hwf.s1
            simp only [L4.C.k, L4.C.n, L4.C.s, L4.C.l] at c0 c1 c2 c3 hxs hsub
            clear h3 e2 hwf
            by_cases hr2 : 0 < r
            · have HN : Hid ((cl.drop (k + 1)).foldl (fewF (wgM dp)) (wgM dp (.mk xk xn xs xl) r) = q) := by
                unfold Hid
                rw [← HK.out, hd, List.foldl_cons]; unfold fewF; rw [if_pos hr2]
              have HC := Lib.hid (HIH.out dp xk xn xs xl u r wr hsub hxs (by omega) hr2 hr1)
              have hle := wgM_le dp (.mk xk xn xs xl) r hr0
              generalize wgM dp (.mk xk xn xs xl) r = r' at HN HC hle
              clear HK hd hsub
              go_wp2_with (go_at_call 66; refine (HC.out).mono ?_; rintro e w' ⟨rfl, hbel⟩)
              have HX := Lib.hid (HBX.out.step hbel)
              clear HBX hbel
              go_wp2_with fail
              go_roundw
              case rel => exact ⟨k + 1, r', by omega, by go_num, rfl, by omega, by omega, HX.out, HN.out⟩
              case measure => simp [intOf]; omega
            · have hq : r = q := by rw [← HK.out, few_stop _ _ _ hr2]
              subst hq
              clear HK hd
              go_wp2_with fail
              go_ret
              exact ⟨rfl, HBX.out.old⟩
          · have hq : r = q := by rw [← HK.out, List.drop_of_length_le (by omega)]; rfl
            subst hq
            clear HK
            go_wp2_with fail
            go_ret
            exact ⟨rfl, HBX.out.old⟩

end Go.Proofs.YtjanddnlhaionaaGreatDoor
