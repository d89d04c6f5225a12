/-
  The contracts of appendCell, Put, size and Size. No condition but bounds on lengths.
-/
import Derived.Test.YtdmalkkpcggifaaE
namespace Go.Proofs.Ytdmalkkpcggifaa
open Go.RowKit

/-- The encoding of a cell, with so many levels left. -/
def encC : Nat → C → List UInt8
  | 0, _ => []
  | d + 1, .mk k n s l => UInt8.ofNat (markOf k n + (bytesF 8 (baseOf k n s l)).length) :: (bytesF 8 (baseOf k n s l) ++ (s.data.toList ++ l.flatMap (encC d)))
theorem encC_succ (d : Nat) (k n : Int) (s : ByteArray) (l : List C) : encC (d + 1) (.mk k n s l) =
    UInt8.ofNat (markOf k n + (bytesF 8 (baseOf k n s l)).length) :: (bytesF 8 (baseOf k n s l) ++ (s.data.toList ++ l.flatMap (encC d))) := rfl

theorem okC_list {d : Nat} {k n : Int} {s : ByteArray} {l : List C} (h : okC (d + 1) (.mk k n s l) = true) : l.all (okC d) = true := by
  rw [okC_succ] at h
  by_cases h1 : k = 1
  · rw [if_pos h1] at h
    simp at h
    simp [h.2]
  · rw [if_neg h1] at h
    by_cases h2 : k = 2
    · rw [if_pos h2] at h
      simp at h
      simp [h.2.1]
    · rw [if_neg h2] at h
      by_cases h3 : k = 3
      · rw [if_pos h3] at h
        simp only [Bool.and_eq_true] at h
        exact h.2.2.2
      · rw [if_neg h3] at h
        cases h

theorem baseOf_lt {d : Nat} {k n : Int} {s : ByteArray} {l : List C} (h : okC (d + 1) (.mk k n s l) = true) (h0 : -9223372036854775808 ≤ n) (h1 : n ≤ 9223372036854775807) : baseOf k n s l < 9223372036854775808 := by
  rw [okC_succ] at h
  unfold baseOf
  by_cases k1 : k = 1
  · subst k1
    rw [if_neg (by omega), if_neg (by omega)]
    split <;> omega
  · rw [if_neg k1] at h
    by_cases k2 : k = 2
    · rw [if_pos k2] at h ⊢
      simp at h
      omega
    · rw [if_neg k2] at h ⊢
      by_cases k3 : k = 3
      · rw [if_pos k3] at h ⊢
        simp only [Bool.and_eq_true, decide_eq_true_eq] at h
        omega
      · rw [if_neg k3] at h
        cases h

theorem markOf_le (k n : Int) : markOf k n ≤ 64 := by unfold markOf; split <;> (try split) <;> (try split) <;> omega

theorem Gr.box {B : Nat} {w w' : World} {cs : Array Value} (h : Gr B (w.alloc (.cells cs 25)) w') (j : Nat) : w'.cell? ⟨w.heap.size, j, none⟩ = cs[j]? := by
  have hb := h.2 w.heap.size (.cells cs 25 (0, 0)) (by simpa using heap_alloc_new w (.cells cs 25)) (by simp) (fun c fz e => by injection e with _ e; cases e)
  rw [cell_of_row w' w.heap.size j cs 25 (0, 0) hb]

set_option maxRecDepth 100000 in
set_option maxHeartbeats 1600000 in
theorem appendCell24 (D : Nat) : ∀ (d B : Nat) (v : Value) (out : List UInt8) (ck cn : Int) (cs : ByteArray) (cl : List C) (u : Value) (w : World), okC D (.mk ck cn cs cl) = true → LAt w B d u cl → Own B v out w → B ≤ w.heap.size →
    -9223372036854775808 ≤ cn → cn ≤ 9223372036854775807 → out.length + (encC D (.mk ck cn cs cl)).length ≤ 1000000 →
    Calls Try.prog 24 #[v, .agg #[.int .i64 ck, .int .i64 cn, .string cs, u]] w (AppTo B w (out ++ encC D (.mk ck cn cs cl))) := by
  induction D with
  | zero => intro d B v out ck cn cs cl u w h; cases h
  | succ D ih =>
    intro d B v out ck cn cs cl u w hok hL ho hB hn0 hn1 hlen
    obtain ⟨i0, hi, hz0, hz1, hz2⟩ := info5
    have hall := okC_list hok
    have hbl := baseOf_lt hok hn0 hn1
    obtain ⟨A, cap, rfl⟩ := hL.slice
    have hcap : cl.length ≤ 9223372036854775807 := by
      cases d with
      | zero => exact hL.elim
      | succ d =>
        obtain ⟨A', cap', e, h1, h2, _⟩ := hL
        unfold maxLen at h2
        omega
    have HL := Lib.hid hL
    have HIH := Lib.hid ih
    have HALL := Lib.hid hall
    have HM := Lib.hid (markAndBase33 ck cn cs cl A cap (w.alloc (.cells #[.int .i64 ck, .int .i64 cn, .string cs, .slice A cl.length cap] 25)) hn0 hn1)
    rw [encC_succ] at hlen ⊢
    have hmk := markOf_le ck cn
    generalize markOf ck cn = mk at HM hlen hmk ⊢
    generalize baseOf ck cn cs cl = bs at HM hlen hbl ⊢
    have HWD := Lib.hid (fun w => width34 bs w hbl)
    have HAB := Lib.hid (fun (v : Value) (l : List UInt8) (w : World) (h1 : Own B v l w) (h2 : B ≤ w.heap.size) (h3 : l.length + 8 ≤ 2000000) => appendBase35 8 bs B v l w h1 h2 (by omega) hbl h3)
    have hfl := bytesF_length 8 bs
    generalize bytesF 8 bs = dl at HWD HAB hlen hfl ⊢
    simp only [List.length_cons, List.length_append] at hlen
    obtain ⟨dg, hdg⟩ : ∃ dg, UInt8.ofNat (mk + dl.length) = dg := ⟨_, rfl⟩
    have hdn : (dg.toNat : Int) = (mk : Int) + (dl.length : Int) := by rw [← hdg, UInt8.toNat_ofNat']; omega
    rw [hdg]
    have HD := Lib.hid hdn
    have HO := Lib.hid ho
    obtain ⟨tot, htot⟩ : ∃ tot, out ++ dg :: (dl ++ (cs.data.toList ++ cl.flatMap (encC D))) = tot := ⟨_, rfl⟩
    rw [htot]
    obtain ⟨o3, ho3e⟩ : ∃ o3, out ++ [dg] = o3 := ⟨_, rfl⟩
    obtain ⟨o4, ho4e⟩ : ∃ o4, o3 ++ dl = o4 := ⟨_, rfl⟩
    obtain ⟨o5, ho5e⟩ : ∃ o5, o4 ++ cs.data.toList = o5 := ⟨_, rfl⟩
    have hl3 : o3.length = out.length + 1 := by rw [← ho3e]; simp
    have hl4 : o4.length = out.length + 1 + dl.length := by rw [← ho4e, List.length_append, hl3]
    have HTOT : Hid (o5 ++ cl.flatMap (encC D) = tot) := by unfold Hid; rw [← htot, ← ho5e, ← ho4e, ← ho3e]; simp
    have HE3 := Lib.hid ho3e
    have HE4 := Lib.hid ho4e
    have HE5 := Lib.hid ho5e
    have htl : tot.length ≤ 1000000 := by rw [← htot]; simp; simp at hlen; omega
    have hss : cs.data.toList.length = cs.size := by simp
    have hls : out.length + 1 + dl.length + cs.size ≤ 1000000 := by omega
    clear hL ih hall hok ho hdn hdg htot hlen hss ho3e ho4e ho5e
    go_enter Try.func24, Try.ntmps24
    go_wp2_with fail
    refine HM.out.mono ?_
    rintro e w2 ⟨rfl, hb2⟩
    have hG2 : Gr B w w2 := ((Gr.refl B w).alloc hB _).trans (Gr.of_below hb2 (by simp; omega))
    have hGx2 : Gr B (w.alloc (.cells #[.int .i64 ck, .int .i64 cn, .string cs, .slice A cl.length cap] 25)) w2 := Gr.of_below hb2 (by simp; omega)
    have HO2 : Hid (Own B v out w2) := Own.below (HO.out.alloc _) hb2
    have hB2 : B ≤ w2.heap.size := Nat.le_trans hB hG2.1.size
    have HG2 := Lib.hid hG2
    have HGx2 := Lib.hid hGx2
    clear hb2 hG2 hGx2 HM HO
    go_wp2_with fail
    refine (HWD.out _).mono ?_
    rintro e w2' ⟨rfl, rfl⟩
    go_wp2_with (at_builtin; go_must (refine wpList_append_own _ rfl _ _ 53 rfl B 5 i0 (.int .u8 0) 1 1 Try.underlying53 hi hz0 hz1 hz2 rfl (by omega) _ out.length (bytesV out) rfl (HO2.out.alloc _) ⟨w2.heap.size, 0, none⟩ 1 1 (bytesV [dg]) rfl rfl ?hn (bytes_oneCell _) ?c3 ?c4 ?c5 ?_))
    case hn => exact new_cells w2 [dg] _ (one_cells _ dg HD.out)
    case c3 => unfold maxLen; omega
    case c4 => omega
    case c5 => simp; omega
    intro v3 w3 ho3 hg3 _
    have HO3 : Hid (Own B v3 o3 w3) := by unfold Hid; rw [← HE3.out]; exact Own.mk ho3 (by simp)
    have hG3 : Gr B w2 w3 := ((Gr.refl B w2).alloc hB2 _).grown (HO2.out.alloc _) hg3 (by simp; omega)
    have HG3 := Lib.hid (HG2.out.trans hG3)
    have HGx3 := Lib.hid (HGx2.out.trans hG3)
    have hB3 : B ≤ w3.heap.size := Nat.le_trans hB HG3.out.1.size
    clear ho3 hg3 hG3 HO2 HG2 HGx2
    go_wp2_with fail
    refine (HAB.out v3 o3 w3 HO3.out hB3 (by omega)).mono ?_
    rintro e w4 ⟨v4, rfl, ho4, hg4⟩
    rw [HE4.out] at ho4
    have HO4 := Lib.hid ho4
    have HG4 := Lib.hid (HG3.out.trans hg4)
    have HGx4 := Lib.hid (HGx3.out.trans hg4)
    have b2 : w4.cell? ⟨w.heap.size, 2, none⟩ = some (.string cs) := HGx4.out.box 2
    have b3 : w4.cell? ⟨w.heap.size, 3, none⟩ = some (.slice A cl.length cap) := HGx4.out.box 3
    have hB4 : B ≤ w4.heap.size := Nat.le_trans hB HG4.out.1.size
    clear ho4 hg4 HO3 HG3 HGx3
    go_wp2_with (at_builtin; go_must (refine Lib.wpList_append_own_string _ rfl _ _ 53 9 rfl B 5 i0 Try.underlying53 Try.underlying9 hi hz0 hz1 hz2 _ _ _ rfl HO4.out cs rfl ?c3 ?c4 ?c5 ?_))
    case c3 => unfold maxLen; omega
    case c4 => omega
    case c5 => exact hB4
    intro v5 w5 ho5 hg5 _
    have HO5 : Hid (Own B v5 o5 w5) := by unfold Hid; rw [← HE5.out]; exact Own.mk (by rw [← strCells_eq]; exact ho5) (by rw [hl4]; simp)
    have hG5 : Gr B w4 w5 := (Gr.refl B w4).grown HO4.out hg5 hB4
    have HG5 := Lib.hid (HG4.out.trans hG5)
    have HGx5 := Lib.hid (HGx4.out.trans hG5)
    have b3 : w5.cell? ⟨w.heap.size, 3, none⟩ = some (.slice A cl.length cap) := HGx5.out.box 3
    clear ho5 hg5 hG5 HO4 HG4 HGx4
    go_wp2_with fail
    go_loopw [0, 32] (fun s0 s32 wr => ∃ (k : Nat) (o' : List UInt8), k ≤ cl.length ∧ s32 = .int .i64 k ∧ Hid (Own B s0 o' wr) ∧ Hid (Gr B w wr) ∧ Hid (o' ++ (cl.drop k).flatMap (encC D) = tot)) (fun _ s32 _ => cl.length - (intOf s32).toNat)
    case atStart => exact ⟨0, _, Nat.zero_le _, rfl, HO5, HG5, HTOT.out⟩
    case round =>
      obtain ⟨k, o', hk, rfl, HOr, HGr, HT⟩ := hrel
      clear HO5 HG5 HTOT HGx5 b3
      by_cases hlt : k < cl.length
      · have hLr := HL.out.below HGr.out.1
        obtain ⟨d, rfl⟩ : ∃ e, d = e + 1 := by cases d with | zero => exact hLr.elim | succ e => exact ⟨e, rfl⟩
        obtain ⟨A', cap', e', -, -, h3⟩ := hLr
        injection e' with e1 e2 e3
        subst e1 e3
        obtain ⟨b, o, rfl, hb, hr⟩ := h3 (by omega)
        have hd := drop_get cl k hlt
        have hok := List.all_eq_true.1 HALL.out cl[k] (List.getElem_mem hlt)
        obtain ⟨u, hr, hwf, hsub⟩ := hr k hlt
        generalize cl[k] = x at hd hr hwf hsub hok
        obtain ⟨xk, xn, xs, xl⟩ := x
        obtain ⟨c0, c1, c2, c3⟩ := hr
        have hx0 := hwf.n0
        have hx1 := hwf.n1
        simp only [k_mk, n_mk, s_mk, l_mk] at c0 c1 c2 c3 hsub hx0 hx1
        obtain ⟨A2, cap2, rfl⟩ := hsub.slice
        generalize hxl : xl.length = xn2 at c3 hsub
        clear hxl
        have hBr : B ≤ wr.heap.size := Nat.le_trans hB HGr.out.1.size
        have HT2 : Hid (o' ++ encC D (.mk xk xn xs xl) ++ (cl.drop (k + 1)).flatMap (encC D) = tot) := by
          unfold Hid
          rw [← HT.out, hd, List.flatMap_cons, List.append_assoc]
        have hl2 : o'.length + (encC D (.mk xk xn xs xl)).length ≤ 1000000 := by
          have := congrArg List.length HT2.out
          simp only [List.length_append] at this
          omega
        have HC := Lib.hid (HIH.out d B u0 o' xk xn xs xl (.slice A2 xn2 cap2) (wr.alloc (.cells #[.int .i64 xk, .int .i64 xn, .string xs, .slice A2 xn2 cap2] 25)) hok (hsub.below ((Below.refl B wr).alloc hBr _)) (HOr.out.alloc _) (by simp; omega) hx0 hx1 hl2)
        generalize encC D (.mk xk xn xs xl) = ex at HC HT2 hl2
        clear h3 e2 hwf hd HT hok hsub
        go_wp2_with (go_at_call 24; refine (HC.out).mono ?_; rintro e w' ⟨v', rfl, ho', hg'⟩)
        have HO' := Lib.hid ho'
        have HG' : Hid (Gr B w w') := HGr.out.trans (((Gr.refl B wr).alloc hBr _).trans hg')
        clear ho' hg'
        go_wp2_with fail
        go_roundw
        case rel => exact ⟨k + 1, _, by omega, by go_num, HO', HG', HT2.out⟩
        case measure => simp [intOf]; omega
      · have hq : o' = tot := by
          rw [← HT.out, List.drop_of_length_le (by omega)]; simp
        subst hq
        clear HT
        go_wp2_with fail
        go_ret
        exact ⟨_, rfl, HOr.out, HGr.out⟩

def putS (c : C) : ByteArray := if okC 16 c then ⟨(encC 16 c).toArray⟩ else ⟨#[]⟩
def putE (c : C) : Int := if okC 16 c then 0 else 2

set_option maxRecDepth 100000 in
set_option maxHeartbeats 800000 in
theorem put9 (d : Nat) (ck cn : Int) (cs : ByteArray) (cl : List C) (u : Value) (w : World) (h : LAt w w.heap.size d u cl) (hn0 : -9223372036854775808 ≤ cn) (hn1 : cn ≤ 9223372036854775807)
    (hlen : okC 16 (.mk ck cn cs cl) = true → (encC 16 (.mk ck cn cs cl)).length ≤ 1000000) :
    Calls Try.prog 9 #[.agg #[.int .i64 ck, .int .i64 cn, .string cs, u]] w fun e w' => e = .returned (.tuple #[.string (putS (.mk ck cn cs cl)), .int .i64 (putE (.mk ck cn cs cl))]) ∧ Below w.heap.size w w' := by
  have HB := Lib.hid (Box.new w (.mk ck cn cs cl) u)
  have HC := Lib.hid (check11 d ck cn cs cl u (w.alloc (.cells #[.int .i64 ck, .int .i64 cn, .string cs, u] 25)) (h.step HB.out.old))
  have HL := Lib.hid h
  unfold putS putE
  cases hok : okC 16 (.mk ck cn cs cl) with
  | false =>
    rw [hok] at HC
    clear h hok hlen
    go_enter Try.func9, Try.ntmps9
    go_wp2_with (go_at_call 11; refine (HC.out).mono ?_; rintro e w' ⟨rfl, hbel⟩)
    have HX := Lib.hid (HB.out.step hbel)
    clear hbel
    go_wp2_with fail
    go_ret2
    exact ⟨rfl, HX.out.old⟩
  | true =>
    rw [hok] at HC
    have HA := Lib.hid (fun (B : Nat) (w : World) (hL : LAt w B d u cl) (hB : B ≤ w.heap.size) => appendCell24 16 d B (.slice none 0 0) [] ck cn cs cl u w hok hL (World.ownsRow_nil w B 5 1) hB hn0 hn1 (by simpa using hlen hok))
    generalize encC 16 (.mk ck cn cs cl) = en at HA ⊢
    clear h hok hlen
    go_enter Try.func9, Try.ntmps9
    go_wp2_with fail
    refine (HC.out).mono ?_
    rintro e w' ⟨rfl, hbel⟩
    have hX := HB.out.step hbel
    have b0 : w'.cell? ⟨w.heap.size, 0, none⟩ = some (.int .i64 ck) := hX.cell 0
    have b1 : w'.cell? ⟨w.heap.size, 1, none⟩ = some (.int .i64 cn) := hX.cell 1
    have b2 : w'.cell? ⟨w.heap.size, 2, none⟩ = some (.string cs) := hX.cell 2
    have b3 : w'.cell? ⟨w.heap.size, 3, none⟩ = some u := hX.cell 3
    have HX := Lib.hid hX
    have HAC := Lib.hid (HA.out w'.heap.size w' (HL.out.step hX.old) (Nat.le_refl _))
    clear hbel hX HA HC
    go_wp2_with fail
    refine (HAC.out).mono ?_
    rintro e w3 ⟨v3, rfl, ho3, hg3⟩
    rw [List.nil_append] at ho3
    obtain ⟨a3, c3, rfl⟩ := ho3.slice
    have hcv := conv_own w'.heap.size en.length c3 a3 en w3 ho3 rfl
    obtain ⟨es, hes⟩ : ∃ es, (⟨en.toArray⟩ : ByteArray) = es := ⟨_, rfl⟩
    rw [hes] at hcv
    have HES := Lib.hid hes
    clear hes
    have HY := Lib.hid (HX.out.step hg3.1)
    clear ho3 hg3 HX HAC
    go_wp2_with fail
    go_ret2
    exact ⟨by rw [← HES.out]; rfl, HY.out.old⟩

set_option maxRecDepth 100000 in
set_option maxHeartbeats 1600000 in
theorem size28 (D : Nat) : ∀ (d : Nat) (ck cn : Int) (cs : ByteArray) (cl : List C) (u : Value) (w : World), okC D (.mk ck cn cs cl) = true → LAt w w.heap.size d u cl →
    -9223372036854775808 ≤ cn → cn ≤ 9223372036854775807 → (encC D (.mk ck cn cs cl)).length ≤ 1000000 →
    Calls Try.prog 28 #[.agg #[.int .i64 ck, .int .i64 cn, .string cs, u]] w fun e w' => e = .returned (.int .i64 ((encC D (.mk ck cn cs cl)).length : Int)) ∧ Below w.heap.size w w' := by
  induction D with
  | zero => intro d ck cn cs cl u w h; cases h
  | succ D ih =>
    intro d ck cn cs cl u w hok hL hn0 hn1 hlen
    have hall := okC_list hok
    have hbl := baseOf_lt hok hn0 hn1
    obtain ⟨A, cap, rfl⟩ := hL.slice
    have hcap : cl.length ≤ 9223372036854775807 := by
      cases d with
      | zero => exact hL.elim
      | succ d =>
        obtain ⟨A', cap', e, h1, h2, _⟩ := hL
        unfold maxLen at h2
        omega
    have HL := Lib.hid hL
    have HIH := Lib.hid ih
    have HALL := Lib.hid hall
    have HB := Lib.hid (Box.new w (.mk ck cn cs cl) (.slice A cl.length cap))
    have HM := Lib.hid (markAndBase33 ck cn cs cl A cap (w.alloc (.cells #[.int .i64 ck, .int .i64 cn, .string cs, .slice A cl.length cap] 25)) hn0 hn1)
    rw [encC_succ] at hlen ⊢
    generalize markOf ck cn = mk at HM hlen ⊢
    generalize baseOf ck cn cs cl = bs at HM hlen hbl ⊢
    have HWDQ : Hid (∀ w, Calls Try.prog 34 #[.int .i64 bs] w fun e w' => e = .returned (.int .i64 ((bytesF 8 bs).length : Int)) ∧ ∃ m, w' = w.drewN m) := fun w => (width34 bs w hbl).mono (fun e w' h => ⟨h.1, 0, h.2.symm⟩)
    have hfl := bytesF_length 8 bs
    generalize bytesF 8 bs = dl at HWDQ hlen hfl ⊢
    simp only [List.length_cons, List.length_append] at hlen ⊢
    have hss : cs.data.toList.length = cs.size := by simp
    rw [hss] at hlen ⊢
    obtain ⟨tot, htot⟩ : ∃ tot, dl.length + (cs.size + (cl.flatMap (encC D)).length) + 1 = tot := ⟨_, rfl⟩
    rw [htot] at hlen ⊢
    have HTOT : Hid (1 + dl.length + cs.size + (cl.flatMap (encC D)).length = tot) := by unfold Hid; omega
    have hls : 1 + dl.length + cs.size ≤ 1000000 := by omega
    clear hL ih hall hok htot hss
    go_enter Try.func28, Try.ntmps28
    go_wp2_with fail
    refine HM.out.mono ?_
    rintro e w2 ⟨rfl, hb2⟩
    have hX := HB.out.step hb2
    have b2 : w2.cell? ⟨w.heap.size, 2, none⟩ = some (.string cs) := hX.cell 2
    have HX := Lib.hid hX
    clear hb2 HM HB hX
    go_wp2_with fail
    go_quiet ((go_at_call 34; exact Calls.quiet_of (HWDQ.out _)))
    have b3 : (w2.drewN nq).cell? ⟨w.heap.size, 3, none⟩ = some (.slice A cl.length cap) := (HX.out.drewN nq).cell 3
    have HX2 := Lib.hid (HX.out.drewN nq)
    clear HX b2
    generalize w2.drewN nq = w3 at b3 HX2 ⊢
    go_wp2_with fail
    go_loopw [5, 23] (fun s5 s23 wr => ∃ (k m : Nat), k ≤ cl.length ∧ s23 = .int .i64 k ∧ s5 = .int .i64 m ∧ Hid (Below w.heap.size w wr) ∧ Hid (m + ((cl.drop k).flatMap (encC D)).length = tot)) (fun _ s23 _ => cl.length - (intOf s23).toNat)
    case atStart => exact ⟨0, 1 + dl.length + cs.size, Nat.zero_le _, rfl, by simp, HX2.out.old, HTOT.out⟩
    case round =>
      obtain ⟨k, m, hk, rfl, rfl, HBW, HT⟩ := hrel
      clear HX2 HTOT b3
      by_cases hlt : k < cl.length
      · have hLr := HL.out.step HBW.out
        obtain ⟨d, rfl⟩ : ∃ e, d = e + 1 := by cases d with | zero => exact hLr.elim | succ e => exact ⟨e, rfl⟩
        obtain ⟨A', cap', e', -, -, h3⟩ := hLr
        injection e' with e1 e2 e3
        subst e1 e3
        obtain ⟨b, o, rfl, hb, hr⟩ := h3 (by omega)
        have hd := drop_get cl k hlt
        have hok := List.all_eq_true.1 HALL.out cl[k] (List.getElem_mem hlt)
        obtain ⟨u, hr, hwf, hsub⟩ := hr k hlt
        generalize cl[k] = x at hd hr hwf hsub hok
        obtain ⟨xk, xn, xs, xl⟩ := x
        obtain ⟨c0, c1, c2, c3⟩ := hr
        have hx0 := hwf.n0
        have hx1 := hwf.n1
        simp only [k_mk, n_mk, s_mk, l_mk] at c0 c1 c2 c3 hsub hx0 hx1
        obtain ⟨A2, cap2, rfl⟩ := hsub.slice
        generalize hxl : xl.length = xn2 at c3 hsub
        clear hxl
        have HT2 : Hid (m + (encC D (.mk xk xn xs xl)).length + ((cl.drop (k + 1)).flatMap (encC D)).length = tot) := by
          unfold Hid
          rw [← HT.out, hd, List.flatMap_cons, List.length_append]
          omega
        have hl2 : m + (encC D (.mk xk xn xs xl)).length ≤ 1000000 := by have := HT2.out; omega
        have HX := Lib.hid (Box.new wr (.mk xk xn xs xl) (.slice A2 xn2 cap2))
        have HC := Lib.hid (HIH.out d xk xn xs xl (.slice A2 xn2 cap2) (wr.alloc (.cells #[.int .i64 xk, .int .i64 xn, .string xs, .slice A2 xn2 cap2] 25)) hok (hsub.step HX.out.old) hx0 hx1 (by omega))
        generalize (encC D (.mk xk xn xs xl)).length = ex at HC HT2 hl2
        clear h3 e2 hwf hd HT hok hsub
        go_wp2_with (go_at_call 28; refine (HC.out).mono ?_; rintro e w' ⟨rfl, hbel⟩)
        have HY := Lib.hid (HBW.out.trans ((HX.out.step hbel).old.mono HBW.out.size))
        clear hbel
        go_wp2_with fail
        go_roundw
        case rel => exact ⟨k + 1, m + ex, by omega, by go_num, by go_num, HY, HT2.out⟩
        case measure => simp [intOf]; omega
      · have hq : m = tot := by
          rw [← HT.out, List.drop_of_length_le (by omega)]; simp
        subst hq
        clear HT
        go_wp2_with fail
        go_ret
        exact ⟨rfl, HBW.out⟩

set_option maxHeartbeats 800000 in
theorem size13 (d : Nat) (ck cn : Int) (cs : ByteArray) (cl : List C) (u : Value) (w : World) (h : LAt w w.heap.size d u cl) (hn0 : -9223372036854775808 ≤ cn) (hn1 : cn ≤ 9223372036854775807)
    (hlen : okC 16 (.mk ck cn cs cl) = true → (encC 16 (.mk ck cn cs cl)).length ≤ 1000000) :
    Calls Try.prog 13 #[.agg #[.int .i64 ck, .int .i64 cn, .string cs, u]] w fun e w' => e = .returned (.int .i64 ((putS (.mk ck cn cs cl)).size : Int)) ∧ Below w.heap.size w w' := by
  have HB := Lib.hid (Box.new w (.mk ck cn cs cl) u)
  have HC := Lib.hid (check11 d ck cn cs cl u (w.alloc (.cells #[.int .i64 ck, .int .i64 cn, .string cs, u] 25)) (h.step HB.out.old))
  have HL := Lib.hid h
  unfold putS
  cases hok : okC 16 (.mk ck cn cs cl) with
  | false =>
    rw [hok] at HC
    clear h hok hlen
    go_enter Try.func13, Try.ntmps13
    go_wp2_with (go_at_call 11; refine (HC.out).mono ?_; rintro e w' ⟨rfl, hbel⟩)
    have HX := Lib.hid (HB.out.step hbel)
    clear hbel
    go_wp2_with fail
    go_ret
    exact ⟨rfl, HX.out.old⟩
  | true =>
    rw [hok] at HC
    have HA := Lib.hid (fun (w : World) (hL : LAt w w.heap.size d u cl) => size28 16 d ck cn cs cl u w hok hL hn0 hn1 (hlen hok))
    rw [if_pos rfl, show (⟨(encC 16 (.mk ck cn cs cl)).toArray⟩ : ByteArray).size = (encC 16 (.mk ck cn cs cl)).length from rfl]
    generalize (encC 16 (.mk ck cn cs cl)).length = en at HA ⊢
    clear h hok hlen
    go_enter Try.func13, Try.ntmps13
    go_wp2_with fail
    refine (HC.out).mono ?_
    rintro e w' ⟨rfl, hbel⟩
    have hX := HB.out.step hbel
    have b0 : w'.cell? ⟨w.heap.size, 0, none⟩ = some (.int .i64 ck) := hX.cell 0
    have b1 : w'.cell? ⟨w.heap.size, 1, none⟩ = some (.int .i64 cn) := hX.cell 1
    have b2 : w'.cell? ⟨w.heap.size, 2, none⟩ = some (.string cs) := hX.cell 2
    have b3 : w'.cell? ⟨w.heap.size, 3, none⟩ = some u := hX.cell 3
    have HX := Lib.hid hX
    have HAC := Lib.hid (HA.out w' (HL.out.step hX.old))
    clear hbel hX HA HC
    go_wp2_with fail
    refine (HAC.out).mono ?_
    rintro e w3 ⟨rfl, hb3⟩
    have HY := Lib.hid (HX.out.step hb3)
    clear hb3 HX HAC
    go_wp2_with fail
    go_ret
    exact ⟨rfl, HY.out.old⟩

end Go.Proofs.Ytdmalkkpcggifaa
