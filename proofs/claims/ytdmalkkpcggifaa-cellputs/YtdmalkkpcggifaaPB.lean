/-
  The contract of the document's Puts. No condition but bounds on lengths.
-/
import Derived.Test.YtdmalkkpcggifaaPA
namespace Go.Proofs.Ytdmalkkpcggifaa
open Go.RowKit

theorem encC_head (d : Nat) (k n : Int) (s : ByteArray) (l : List C) : encC (d + 1) (.mk k n s l) = headL (markOf k n) (baseOf k n s l) ++ (s.data.toList ++ l.flatMap (encC d)) := rfl
theorem mk_append (a : List UInt8) (s : ByteArray) : (⟨a.toArray⟩ : ByteArray) ++ s = ⟨(a ++ s.data.toList).toArray⟩ := by
  have := str_append a s.data.toList
  rw [mk_data] at this
  exact this

set_option maxRecDepth 100000 in
set_option maxHeartbeats 3200000 in
theorem refPuts26 (D : Nat) : ∀ (d : Nat) (ck cn : Int) (cs : ByteArray) (cl : List C) (u : Value) (w : World), okC D (.mk ck cn cs cl) = true → LAt w w.heap.size d u cl →
    -9223372036854775808 ≤ cn → cn ≤ 9223372036854775807 → (encC D (.mk ck cn cs cl)).length ≤ 1000000 →
    Calls Try.prog 26 #[.agg #[.int .i64 ck, .int .i64 cn, .string cs, u]] w fun e w' => e = .returned (.string ⟨(encC D (.mk ck cn cs cl)).toArray⟩) ∧ Below w.heap.size w w' := by
  induction D with
  | zero => intro d ck cn cs cl u w h; cases h
  | succ D ih =>
    intro d ck cn cs cl u w hok hL hn0 hn1 hlen
    have hall := okC_list hok
    have hbl := baseOf_lt hok hn0 hn1
    obtain ⟨A, cap, rfl⟩ := hL.slice
    have HB := Lib.hid (Box.new w (.mk ck cn cs cl) (.slice A cl.length cap))
    rw [encC_head] at hlen ⊢
    have hok' := hok
    rw [okC_succ] at hok'
    by_cases k1 : ck = 1
    · subst k1
      rw [if_pos rfl, Bool.and_eq_true] at hok'
      have hs := toList_empty hok'.1
      have hl : cl = [] := List.length_eq_zero_iff.1 (by simpa using hok'.2)
      subst hs hl
      have HH := Lib.hid (fun w => refHead37 (markOf 1 cn) (baseOf 1 cn ⟨#[]⟩ []) w (markOf_le _ _) hbl)
      rw [show headL (markOf 1 cn) (baseOf 1 cn ⟨#[]⟩ []) ++ ((⟨#[]⟩ : ByteArray).data.toList ++ List.flatMap (encC D) []) = headL (markOf 1 cn) (baseOf 1 cn ⟨#[]⟩ []) by simp]
      by_cases hn : cn < 0
      · have hm : markOf 1 cn = 32 := by unfold markOf; simp [hn]
        have hb : ((baseOf 1 cn ⟨#[]⟩ [] : Nat) : Int) = -(cn + 1) := by unfold baseOf; simp [hn]; omega
        rw [hm, hb] at HH
        rw [hm]
        obtain ⟨es, hes⟩ : ∃ es, (⟨(headL 32 (baseOf 1 cn ⟨#[]⟩ [])).toArray⟩ : ByteArray) = es := ⟨_, rfl⟩
        rw [hes] at HH ⊢
        have hn' : ¬ 0 ≤ cn := by omega
        clear hok hok' hall hL hes hb hm hlen hbl ih
        go_enter Try.func26, Try.ntmps26
        go_wp2_with fail
        refine (HH.out _).mono ?_
        rintro e w2 ⟨rfl, hb2⟩
        have HX := Lib.hid (HB.out.step hb2)
        clear hb2
        go_wp2_with fail
        go_ret
        exact ⟨rfl, HX.out.old⟩
      · have hm : markOf 1 cn = 16 := by unfold markOf; simp [hn]
        have hb : ((baseOf 1 cn ⟨#[]⟩ [] : Nat) : Int) = cn := by unfold baseOf; simp [hn]; omega
        rw [hm, hb] at HH
        rw [hm]
        obtain ⟨es, hes⟩ : ∃ es, (⟨(headL 16 (baseOf 1 cn ⟨#[]⟩ [])).toArray⟩ : ByteArray) = es := ⟨_, rfl⟩
        rw [hes] at HH ⊢
        have hn' : 0 ≤ cn := by omega
        clear hok hok' hall hL hes hb hm hlen hbl ih hn
        go_enter Try.func26, Try.ntmps26
        go_wp2_with fail
        refine (HH.out _).mono ?_
        rintro e w2 ⟨rfl, hb2⟩
        have HX := Lib.hid (HB.out.step hb2)
        clear hb2
        go_wp2_with fail
        go_ret
        exact ⟨rfl, HX.out.old⟩
    rw [if_neg k1] at hok'
    have k1' : (ck == 1) = false := by simpa using k1
    by_cases k2 : ck = 2
    · subst k2
      rw [if_pos rfl] at hok'
      simp only [Bool.and_eq_true, decide_eq_true_eq] at hok'
      obtain ⟨rfl, hl, hsz⟩ := hok'
      have hl : cl = [] := List.length_eq_zero_iff.1 hl
      subst hl
      have HH := Lib.hid (fun w => refHead37 48 cs.size w (by omega) hbl)
      rw [show headL (markOf 2 0) (baseOf 2 0 cs []) ++ (cs.data.toList ++ List.flatMap (encC D) []) = headL 48 cs.size ++ cs.data.toList by rw [List.flatMap_nil, List.append_nil]; rfl, ← mk_append]
      have hel : (headL 48 cs.size).length ≤ 9 := by unfold headL; have := bytesF_length 8 cs.size; simp; omega
      obtain ⟨es, hes⟩ : ∃ es, (⟨(headL 48 cs.size).toArray⟩ : ByteArray) = es := ⟨_, rfl⟩
      have hesz : es.size ≤ 9 := by rw [← hes]; exact hel
      rw [hes] at HH ⊢
      have hnl : ¬ 9223372036854775807 < es.size + cs.size := by omega
      have hS := HB.out
      clear hok hall hL hes hlen hbl ih hel k1
      go_enter Try.func26, Try.ntmps26
      go_wp2_with fail
      go_region_held3 (fun w' => w'.cell? ⟨w.heap.size, 0, none⟩ = some (.int .i64 2) ∧ w'.cell? ⟨w.heap.size, 1, none⟩ = some (.int .i64 0) ∧ w'.cell? ⟨w.heap.size, 2, none⟩ = some (.string cs) ∧ w'.cell? ⟨w.heap.size, 3, none⟩ = some (.slice A 0 cap) ∧ Box w (.mk 2 0 cs []) (.slice A 0 cap) w')
        (first | exact box4 hS.drew | ((apply box4; repeat (first | exact hS.drew | refine Box.step ?_ (by assumption)))))
        (first | (go_at_call 37; refine (HH.out _).mono ?_; rintro e w' ⟨rfl, hbb⟩))
      rename_i hHeld
      have hbw := hHeld.2.2.2.2.old
      clear hHeld
      go_wp2
      go_ret
      exact ⟨rfl, hbw⟩
    rw [if_neg k2] at hok'
    have k2' : (ck == 2) = false := by simpa using k2
    by_cases k3 : ck = 3
    · subst k3
      rw [if_pos rfl] at hok'
      simp only [Bool.and_eq_true, decide_eq_true_eq] at hok'
      obtain ⟨rfl, hs, hl4, -⟩ := hok'
      have hs := toList_empty hs
      subst hs
      have HH := Lib.hid (fun w => refHead37 64 cl.length w (by omega) hbl)
      rw [show headL (markOf 3 0) (baseOf 3 0 ⟨#[]⟩ cl) ++ ((⟨#[]⟩ : ByteArray).data.toList ++ cl.flatMap (encC D)) = headL 64 cl.length ++ cl.flatMap (encC D) from rfl]
      rw [show headL (markOf 3 0) (baseOf 3 0 ⟨#[]⟩ cl) ++ ((⟨#[]⟩ : ByteArray).data.toList ++ cl.flatMap (encC D)) = headL 64 cl.length ++ cl.flatMap (encC D) from rfl] at hlen
      obtain ⟨tot, htot⟩ : ∃ tot, headL 64 cl.length ++ cl.flatMap (encC D) = tot := ⟨_, rfl⟩
      rw [htot] at hlen ⊢
      have HTOT := Lib.hid htot
      generalize headL 64 cl.length = hd at HH HTOT htot
      have HL := Lib.hid hL
      have HIH := Lib.hid ih
      have HALL := Lib.hid hall
      clear hok hall hL htot hbl ih k1 k2
      go_enter Try.func26, Try.ntmps26
      go_wp2_with fail
      refine (HH.out _).mono ?_
      rintro e w2 ⟨rfl, hb2⟩
      have HX := Lib.hid (HB.out.step hb2)
      clear hb2
      go_wp2_with fail
      go_loopw [3, 4] (fun s3 s4 wr => ∃ (k : Nat) (o' : List UInt8), k ≤ cl.length ∧ s4 = .int .i64 k ∧ s3 = .string ⟨o'.toArray⟩ ∧ Hid (Box w (.mk 3 0 ⟨#[]⟩ cl) (.slice A cl.length cap) wr) ∧ Hid (o' ++ (cl.drop k).flatMap (encC D) = tot)) (fun _ s4 _ => cl.length - (intOf s4).toNat)
      case atStart => exact ⟨0, hd, Nat.zero_le _, rfl, rfl, HX, HTOT⟩
      case round =>
        obtain ⟨k, o', hk, rfl, rfl, HBX, HT⟩ := hrel
        clear HX HTOT HB
        have b3 : wr.cell? ⟨w.heap.size, 3, none⟩ = some (.slice A cl.length cap) := HBX.out.cell 3
        have hsz := HBX.out.size
        by_cases hlt : k < cl.length
        · have hLr := HL.out.step HBX.out.old
          obtain ⟨d, rfl⟩ : ∃ e, d = e + 1 := by cases d with | zero => exact hLr.elim | succ e => exact ⟨e, rfl⟩
          obtain ⟨A', cap', e', -, -, h3⟩ := hLr
          injection e' with e1 e2 e3
          subst e1 e3
          obtain ⟨b, o, rfl, hb, hr⟩ := h3 (by omega)
          have hd' := drop_get cl k hlt
          have hokx := List.all_eq_true.1 HALL.out cl[k] (List.getElem_mem hlt)
          obtain ⟨u, hr, hwf, hsub⟩ := hr k hlt
          generalize cl[k] = x at hd' hr hwf hsub hokx
          obtain ⟨xk, xn, xs, xl⟩ := x
          obtain ⟨c0, c1, c2, c3⟩ := hr
          have hx0 := hwf.n0
          have hx1 := hwf.n1
          simp only [k_mk, n_mk, s_mk, l_mk] at c0 c1 c2 c3 hsub hx0 hx1
          obtain ⟨A2, cap2, rfl⟩ := hsub.slice
          generalize hxl : xl.length = xn2 at c3 hsub
          clear hxl
          have HT2 : Hid (o' ++ encC D (.mk xk xn xs xl) ++ (cl.drop (k + 1)).flatMap (encC D) = tot) := by
            unfold Hid
            rw [← HT.out, hd', List.flatMap_cons, List.append_assoc]
          have hl2 : o'.length + (encC D (.mk xk xn xs xl)).length ≤ 1000000 := by
            have := congrArg List.length HT2.out
            simp only [List.length_append] at this
            omega
          have HC := Lib.hid (HIH.out d xk xn xs xl (.slice A2 xn2 cap2) wr hokx hsub hx0 hx1 (by omega))
          generalize encC D (.mk xk xn xs xl) = ex at HC HT2 hl2
          have hstr : (⟨o'.toArray⟩ : ByteArray) ++ ⟨ex.toArray⟩ = ⟨(o' ++ ex).toArray⟩ := str_append o' ex
          have hsz1 : (⟨o'.toArray⟩ : ByteArray).size = o'.length := rfl
          have hsz2 : (⟨ex.toArray⟩ : ByteArray).size = ex.length := rfl
          have hnl : ¬ 9223372036854775807 < o'.length + ex.length := by omega
          clear h3 e2 hwf hd' HT hokx hsub
          go_wp2_with (go_at_call 26; refine (HC.out).mono ?_; rintro e w' ⟨rfl, hbel⟩)
          have HBX2 := Lib.hid (HBX.out.step hbel)
          clear hbel
          go_wp2_with fail
          go_roundw
          case rel => exact ⟨k + 1, o' ++ ex, by omega, by go_num, rfl, HBX2, HT2⟩
          case measure => simp [intOf]; omega
        · have hq : o' = tot := by
            rw [← HT.out, List.drop_of_length_le (by omega)]; simp
          subst hq
          clear HT
          go_wp2_with fail
          go_ret
          exact ⟨rfl, HBX.out.old⟩
    · rw [if_neg k3] at hok'
      cases hok'
end Go.Proofs.Ytdmalkkpcggifaa
