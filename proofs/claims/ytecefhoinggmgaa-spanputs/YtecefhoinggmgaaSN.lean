/-
  Contracts of span.overlapping, span.At and span.Clip. No condition.
-/
import Derived.Test.YtecefhoinggmgaaSK
namespace Go.Proofs.Ytecefhoinggmgaa
open Go.RowKit

def ovl (l : List Row) (f t : Int) : List Row := (l.dropWhile fun r => decide (r.2.1 ≤ f)).takeWhile fun r => decide (r.1 < t)

theorem rowsAt_part {w : World} {B : Nat} {b o : Nat} {l : List Row} (h : ∀ i (hi : i < l.length), RowAt w b (o + i * 5) l[i]) (hb : b < B) (k j : Nat) (hk : k + j ≤ l.length) (hm : l.length ≤ maxLen) :
    RowsAt w B (.slice (some ⟨b, o + k * 5, none⟩) j j) ((l.drop k).take j) := by
  have hlen : ((l.drop k).take j).length = j := by simp; omega
  refine ⟨_, j, by rw [hlen], by omega, by omega, fun _ => ⟨b, o + k * 5, rfl, hb, fun i hi => ?_⟩⟩
  have h1 : i < j := by omega
  have := h (k + i) (by omega)
  rw [show o + k * 5 + i * 5 = o + (k + i) * 5 by omega]
  simpa using this

theorem rowsAt_nil (w : World) (B : Nat) (A : Option Addr) : RowsAt w B (.slice A 0 0) [] := ⟨A, 0, rfl, Nat.le_refl _, Nat.zero_le _, fun h => by simp at h⟩

set_option maxHeartbeats 1000000 in
theorem overlapping36 (l : List Row) (f t : Int) (lv : Value) (B : Nat) (w : World) (hl : RowsAt w B lv l) :
    Calls Try.prog 36 #[lv, .int .i64 f, .int .i64 t] w fun e w' => ∃ v, e = .returned v ∧ RowsAt w B v (ovl l f t) ∧ w = w' := by
  obtain ⟨A, cap, rfl, h1, h2, h3⟩ := hl
  have h2' := h2
  unfold maxLen at h2
  have H3 := Lib.hid h3
  have H2 := Lib.hid h2'
  clear h3 h2'
  go_enter Try.func36, Try.ntmps36
  go_wp2
  go_loop [7] (fun i => ∃ k : Nat, k ≤ l.length ∧ i = .int .i64 k ∧ Hid ((l.drop k).dropWhile (fun r => decide (r.2.1 ≤ f)) = l.dropWhile fun r => decide (r.2.1 ≤ f))) (fun i => l.length - (intOf i).toNat)
  case atStart => exact ⟨0, Nat.zero_le _, rfl, rfl⟩
  case round =>
    obtain ⟨k, hk, rfl, HK⟩ := hrel
    have hgo : k < l.length ∧ (∃ r, l[k]? = some r ∧ r.2.1 ≤ f) ∨ l.drop k = l.dropWhile fun r => decide (r.2.1 ≤ f) := by
      by_cases hlt : k < l.length
      · by_cases hr : (l[k]).2.1 ≤ f
        · exact .inl ⟨hlt, _, List.getElem?_eq_getElem hlt, hr⟩
        · right
          rw [← HK.out, drop_get l k hlt, List.dropWhile_cons, if_neg (by simpa using hr)]
      · right
        rw [← HK.out, List.drop_of_length_le (by omega)]; rfl
    rcases hgo with ⟨hlt, r, hrk, hre⟩ | hfin
    · obtain ⟨b, o, rfl, hb, hr⟩ := H3.out (by omega)
      have hrr := hr k hlt
      have hd := drop_get l k hlt
      have : l[k] = r := by rw [List.getElem?_eq_getElem hlt] at hrk; injection hrk
      rw [this] at hrr hd
      have HN : Hid ((l.drop (k + 1)).dropWhile (fun r => decide (r.2.1 ≤ f)) = l.dropWhile fun r => decide (r.2.1 ≤ f)) := by
        unfold Hid
        rw [← HK.out, hd, List.dropWhile_cons, if_pos (by simpa using hre)]
      obtain ⟨-, c1, -⟩ := hrr
      obtain ⟨rf, re, rk, rn, rs⟩ := r
      simp only at c1 hre
      clear hr hd this hrk HK
      go_wp2
      go_round
      case rel => exact ⟨k + 1, by omega, by go_num, HN⟩
      case measure => simp [intOf]; omega
    · have HF := Lib.hid hfin
      clear hfin HK
      by_cases hlt : k < l.length
      · obtain ⟨b, o, rfl, hb, hr⟩ := H3.out (by omega)
        have hrr := hr k hlt
        have hre : ¬ (l[k]).2.1 ≤ f := fun hre => by
          have h := HF.out
          have h' := List.head?_dropWhile_not (fun r : Row => decide (r.2.1 ≤ f)) l
          rw [← h, drop_get l k hlt] at h'
          have h'' : decide ((l[k]).2.1 ≤ f) = false := h'
          rw [decide_eq_true hre] at h''
          cases h''
        generalize l[k] = r at hrr hre
        obtain ⟨rf, re, rk, rn, rs⟩ := r
        obtain ⟨-, c1, -⟩ := hrr
        simp only at c1 hre
        clear hr
        go_wp2
        go_loop [8] (fun i => ∃ j : Nat, k + j ≤ l.length ∧ i = .int .i64 ((k + j : Nat) : Int) ∧ Hid (((l.drop (k + j)).takeWhile fun r => decide (r.1 < t)).length + j = ((l.drop k).takeWhile fun r => decide (r.1 < t)).length)) (fun i => l.length - (intOf i).toNat)
        case atStart => exact ⟨0, by omega, rfl, rfl⟩
        case round =>
          obtain ⟨j, hj, rfl, HJ⟩ := hrel
          by_cases hlt2 : k + j < l.length
          · obtain ⟨b2, o2, hA2, hb2, hr2⟩ := H3.out (by omega)
            obtain ⟨rfl, rfl⟩ : b2 = b ∧ o2 = o := by injection hA2 with h; injection h with h4 h5; exact ⟨h4.symm, h5.symm⟩
            have hrr := hr2 (k + j) hlt2
            have hd := drop_get l (k + j) hlt2
            generalize l[k + j] = r at hrr hd
            obtain ⟨rf2, re2, rk, rn, rs⟩ := r
            obtain ⟨c0, -⟩ := hrr
            simp only at c0
            by_cases hlt3 : rf2 < t
            · have HN : Hid (((l.drop (k + (j + 1))).takeWhile fun r => decide (r.1 < t)).length + (j + 1) = ((l.drop k).takeWhile fun r => decide (r.1 < t)).length) := by
                unfold Hid
                rw [← HJ.out, hd, List.takeWhile_cons, if_pos (by simpa using hlt3), List.length_cons, ← Nat.add_assoc k j 1]; omega
              clear hr2 hd HJ
              go_wp2
              go_round
              case rel => exact ⟨j + 1, by omega, by go_num, HN⟩
              case measure => simp [intOf]; omega
            · have HN : Hid (j = ((l.drop k).takeWhile fun r => decide (r.1 < t)).length) := by
                unfold Hid
                rw [← HJ.out, hd, List.takeWhile_cons, if_neg (by simpa using hlt3)]; simp
              clear hd
              have HRS := Lib.hid (rowsAt_part (B := B) hr2 hb2 k j hj (by have := H2.out; omega))
              have HE : Hid ((l.drop k).take j = ovl l f t) := by
                unfold Hid ovl
                rw [← HF.out]
                have hn := HN.out
                rw [hn]
                exact (List.prefix_iff_eq_take.1 (List.takeWhile_prefix _)).symm
              clear hr2 HJ
              by_cases hj0 : j = 0
              · subst hj0
                simp only [Nat.add_zero] at c0 hlt2 hj
                go_wp2
                go_ret
                exact ⟨_, rfl, by rw [← HE.out]; exact rowsAt_nil _ _ _, rfl⟩
              · go_wp2
                go_ret
                exact ⟨_, rfl, by rw [← HE.out]; exact HRS.out, rfl⟩
          · have HN : Hid (j = ((l.drop k).takeWhile fun r => decide (r.1 < t)).length) := by
              unfold Hid
              rw [← HJ.out, List.drop_of_length_le (by omega)]; simp
            obtain ⟨b2, o2, hA2, hb2, hr2⟩ := H3.out (by omega)
            obtain ⟨rfl, rfl⟩ : b2 = b ∧ o2 = o := by injection hA2 with h; injection h with h4 h5; exact ⟨h4.symm, h5.symm⟩
            have HRS := Lib.hid (rowsAt_part (B := B) hr2 hb2 k j hj (by have := H2.out; omega))
            have HE : Hid ((l.drop k).take j = ovl l f t) := by
              unfold Hid ovl
              rw [← HF.out]
              have hn := HN.out
              rw [hn]
              exact (List.prefix_iff_eq_take.1 (List.takeWhile_prefix _)).symm
            clear hr2 HJ
            by_cases hj0 : j = 0
            · exfalso; omega
            · go_wp2
              go_ret
              exact ⟨_, rfl, by rw [← HE.out]; exact HRS.out, rfl⟩
      · obtain rfl : k = l.length := by omega
        have HE : Hid (([] : List Row) = ovl l f t) := by
          unfold Hid ovl
          rw [← HF.out, List.drop_of_length_le (Nat.le_refl _)]; rfl
        go_wp2
        go_loop [8] (fun i => i = .int .i64 (l.length : Int)) (fun i => l.length - (intOf i).toNat)
        case atStart => rfl
        case round =>
          obtain rfl := hrel
          go_wp2
          go_ret
          exact ⟨_, rfl, by rw [← HE.out]; exact rowsAt_nil _ _ _, rfl⟩

def atR (l : List Row) (t : Int) : Vl × Bool :=
  if rowsOK l && isTimeB t then (match ovl l t (t + 1) with | [] => (vz, false) | r :: _ => (r.2.2, true)) else (vz, false)

set_option maxHeartbeats 1000000 in
theorem at15 (l : List Row) (t : Int) (lv : Value) (w : World) (hl : RowsAt w w.heap.size lv l) :
    Calls Try.prog 15 #[lv, .int .i64 t] w fun e w' => e = .returned (.tuple #[valV (atR l t).1, .bool (atR l t).2]) ∧ Below w.heap.size w w' := by
  obtain ⟨ans, hans⟩ : ∃ ans, atR l t = ans := ⟨_, rfl⟩
  rw [hans]
  have HANS := Lib.hid hans
  have HL := Lib.hid hl
  have hb0 : Below w.heap.size w (w.alloc (.cells #[.int .i64 0, .int .i64 0, .string ⟨#[]⟩] 25)) := (Below.refl _ _).alloc (Nat.le_refl _) _
  have HB0 := Lib.hid hb0
  have HC := Lib.hid (check18 l lv _ (hl.step hb0))
  have HT := Lib.hid (isTime35 t)
  obtain ⟨lA, lc, rfl, -⟩ := hl
  clear hans hb0
  cases hok : rowsOK l with
  | false =>
    rw [hok] at HC
    have he : ans = (vz, false) := by rw [← HANS.out, atR, hok]; rfl
    subst he
    clear hok HANS HT
    go_enter Try.func15, Try.ntmps15
    go_wp2_with fail
    refine HC.out.mono ?_
    rintro e' w1 ⟨rfl, hb1⟩
    have HB1 := Lib.hid (HB0.out.trans (hb1.mono (by simp)))
    have p0 : w1.cell? ⟨w.heap.size, 0, none⟩ = some (.int .i64 0) := by rw [hb1.cell (by simp)]; simp [go_sem]
    have p1 : w1.cell? ⟨w.heap.size, 1, none⟩ = some (.int .i64 0) := by rw [hb1.cell (by simp)]; simp [go_sem]
    have p2 : w1.cell? ⟨w.heap.size, 2, none⟩ = some (.string ⟨#[]⟩) := by rw [hb1.cell (by simp)]; simp [go_sem]
    have f0 : ∀ i, w1.frozen? ⟨w.heap.size, i, none⟩ = false := fun i => by rw [hb1.frozen (by simp)]; simp [go_sem]
    have hws : w.heap.size < w1.heap.size := by have := hb1.size; simp at this; omega
    clear hb1
    go_wp2
    exact bodyPost_ret (v := .tuple #[valV vz, .bool false]) (by simp [results, Try.results15, go_sem, valV, vz, p0, p1, p2]; rfl) rfl ⟨rfl, ((HB1.out.setCell (Nat.le_refl _) _).setCell (Nat.le_refl _) _).setCell (Nat.le_refl _) _⟩
  | true =>
    rw [hok] at HC
    cases htm : isTimeB t with
    | false =>
      rw [htm] at HT
      have he : ans = (vz, false) := by rw [← HANS.out, atR, hok, htm]; rfl
      subst he
      clear hok HANS htm
      go_enter Try.func15, Try.ntmps15
      go_wp2_with fail
      refine HC.out.mono ?_
      rintro e' w1 ⟨rfl, hb1⟩
      have HB1 := Lib.hid (HB0.out.trans (hb1.mono (by simp)))
      have p0 : w1.cell? ⟨w.heap.size, 0, none⟩ = some (.int .i64 0) := by rw [hb1.cell (by simp)]; simp [go_sem]
      have p1 : w1.cell? ⟨w.heap.size, 1, none⟩ = some (.int .i64 0) := by rw [hb1.cell (by simp)]; simp [go_sem]
      have p2 : w1.cell? ⟨w.heap.size, 2, none⟩ = some (.string ⟨#[]⟩) := by rw [hb1.cell (by simp)]; simp [go_sem]
      have f0 : ∀ i, w1.frozen? ⟨w.heap.size, i, none⟩ = false := fun i => by rw [hb1.frozen (by simp)]; simp [go_sem]
      have hws : w.heap.size < w1.heap.size := by have := hb1.size; simp at this; omega
      clear hb1
      go_wp2_with fail
      refine (HT.out _).mono ?_
      rintro e' w' ⟨rfl, rfl⟩
      go_wp2
      exact bodyPost_ret (v := .tuple #[valV vz, .bool false]) (by simp [results, Try.results15, go_sem, valV, vz, p0, p1, p2]; rfl) rfl ⟨rfl, ((HB1.out.setCell (Nat.le_refl _) _).setCell (Nat.le_refl _) _).setCell (Nat.le_refl _) _⟩
    | true =>
      rw [htm] at HT
      have hft := isTimeB_iff.1 htm
      have HE : Hid (ans = match ovl l t (t + 1) with | [] => (vz, false) | r :: _ => (r.2.2, true)) := by
        unfold Hid
        rw [← HANS.out, atR, hok, htm]; rfl
      obtain ⟨hft0, hft1⟩ := hft
      clear hok HANS htm
      go_enter Try.func15, Try.ntmps15
      go_wp2_with fail
      refine HC.out.mono ?_
      rintro e' w1 ⟨rfl, hb1⟩
      have HB1 := Lib.hid (HB0.out.trans (hb1.mono (by simp)))
      have p0 : w1.cell? ⟨w.heap.size, 0, none⟩ = some (.int .i64 0) := by rw [hb1.cell (by simp)]; simp [go_sem]
      have p1 : w1.cell? ⟨w.heap.size, 1, none⟩ = some (.int .i64 0) := by rw [hb1.cell (by simp)]; simp [go_sem]
      have p2 : w1.cell? ⟨w.heap.size, 2, none⟩ = some (.string ⟨#[]⟩) := by rw [hb1.cell (by simp)]; simp [go_sem]
      have f0 : ∀ i, w1.frozen? ⟨w.heap.size, i, none⟩ = false := fun i => by rw [hb1.frozen (by simp)]; simp [go_sem]
      have hws : w.heap.size < w1.heap.size := by have := hb1.size; simp at this; omega
      have HOV := Lib.hid (overlapping36 l t (t + 1) _ w.heap.size w1 (HL.out.below HB1.out))
      clear hb1
      go_wp2_with fail
      refine (HT.out _).mono ?_
      rintro e' w' ⟨rfl, rfl⟩
      go_wp2_with fail
      refine HOV.out.mono ?_
      rintro e' w' ⟨v, rfl, hrs, rfl⟩
      obtain ⟨A, cap, rfl, -, -, hr⟩ := hrs
      generalize ovl l t (t + 1) = ov at HE hr
      cases ov with
      | nil =>
        have he : ans = (vz, false) := HE.out
        subst he
        clear HE hr HOV
        go_wp2
        exact bodyPost_ret (v := .tuple #[valV vz, .bool false]) (by simp [results, Try.results15, go_sem, valV, vz, p0, p1, p2]; rfl) rfl ⟨rfl, ((HB1.out.setCell (Nat.le_refl _) _).setCell (Nat.le_refl _) _).setCell (Nat.le_refl _) _⟩
      | cons r rs =>
        have he : ans = (r.2.2, true) := HE.out
        subst he
        obtain ⟨b, o, rfl, hb, hr⟩ := hr (by simp)
        have hr0 := hr 0 (by simp)
        obtain ⟨rf, re, rk, rn, rs'⟩ := r
        obtain ⟨-, -, c2, c3, c4⟩ := hr0
        simp only [Nat.zero_mul, Nat.add_zero, List.getElem_cons_zero] at c2 c3 c4
        have h0 : (0 : Int) < (rs.length : Int) + 1 := by omega
        clear HE hr HOV
        have hbw : ¬ b = w.heap.size := by omega
        go_wp2
        exact bodyPost_ret (v := .tuple #[valV (rk, rn, rs'), .bool true]) (by simp [results, Try.results15, go_sem, valV, p0, p1, p2]) rfl ⟨rfl, ((HB1.out.setCell (Nat.le_refl _) _).setCell (Nat.le_refl _) _).setCell (Nat.le_refl _) _⟩

def clip1 (f t : Int) (r : Row) : Row := (max r.1 f, min r.2.1 t, r.2.2)
def clipR (l : List Row) (f t : Int) : List Row := if rowsOK l && decide (f < t) then (ovl l f t).map (clip1 f t) else []

set_option maxHeartbeats 1000000 in
theorem clip20 (l : List Row) (f t : Int) (lv : Value) (w : World) (hl : RowsAt w w.heap.size lv l) :
    Calls Try.prog 20 #[lv, .int .i64 f, .int .i64 t] w fun e w' => ∃ v, e = .returned v ∧ OwnR w' w.heap.size v (clipR l f t) ∧ Below w.heap.size w w' := by
  obtain ⟨i0, hi, hz0, hz1, hz2⟩ := info_parts Try.info52
  obtain ⟨ans, hans⟩ : ∃ ans, clipR l f t = ans := ⟨_, rfl⟩
  rw [hans]
  have HANS := Lib.hid hans
  have HL := Lib.hid hl
  have HC := Lib.hid (check18 l lv _ hl)
  obtain ⟨lA, lc, rfl, -⟩ := hl
  clear hans
  cases hok : rowsOK l with
  | false =>
    rw [hok] at HC
    have he : ans = [] := by rw [← HANS.out, clipR, hok]; rfl
    subst he
    clear hok HANS
    go_enter Try.func20, Try.ntmps20
    go_wp2_with fail
    refine HC.out.mono ?_
    rintro e' w1 ⟨rfl, hb1⟩
    have HB1 := Lib.hid hb1
    clear hb1
    go_wp2
    go_ret
    exact ⟨_, rfl, OwnR.nil _ _, HB1.out⟩
  | true =>
    rw [hok] at HC
    by_cases hft : f < t
    · have HE : Hid ((ovl l f t).map (clip1 f t) = ans) := by
        unfold Hid
        rw [← HANS.out, clipR, hok, decide_eq_true hft]; rfl
      have hlo : (ovl l f t).length ≤ 64 := by
        have h1 : (ovl l f t).length ≤ l.length := Nat.le_trans (List.takeWhile_prefix _).length_le (List.dropWhile_suffix _).length_le
        have h2 : l.length ≤ 64 := by
          rw [rowsOK, Bool.and_eq_true, decide_eq_true_eq] at hok
          exact hok.1
        omega
      clear hok HANS
      go_enter Try.func20, Try.ntmps20
      go_wp2_with fail
      refine HC.out.mono ?_
      rintro e' w1 ⟨rfl, hb1⟩
      have HB1 := Lib.hid hb1
      have HOV := Lib.hid (overlapping36 l f t _ w.heap.size w1 (HL.out.below hb1))
      clear hb1
      go_wp2_with fail
      refine HOV.out.mono ?_
      rintro e' w' ⟨v, rfl, hrs, rfl⟩
      obtain ⟨A, cap, rfl, hrc, hrm, hr⟩ := hrs
      have HR := Lib.hid hr
      generalize ovl l f t = ov at HE HR hlo hrc
      have hrm' : cap ≤ 9223372036854775807 := by unfold maxLen at hrm; omega
      clear hr HOV HC
      go_wp2
      go_loopw [7, 23] (fun s7 i wr => ∃ k : Nat, k ≤ ov.length ∧ i = .int .i64 k ∧ OwnR wr w.heap.size s7 ((ov.take k).map (clip1 f t)) ∧ Below w.heap.size w wr) (fun _ i _ => ov.length - (intOf i).toNat)
      case atStart => exact ⟨0, Nat.zero_le _, rfl, OwnR.nil _ _, HB1.out⟩
      case round =>
        obtain ⟨k, hk, rfl, hown, hbel⟩ := hrel
        have hlk : ((ov.take k).map (clip1 f t)).length = k := by simp; omega
        obtain ⟨sA, scap, hsv⟩ := hown.slice
        rw [hlk] at hsv
        subst hsv
        obtain ⟨L, hLL⟩ : ∃ L, (ov.take k).map (clip1 f t) = L := ⟨_, rfl⟩
        have HO : Hid (World.ownsRow wr w.heap.size 52 5 (.slice sA k scap) k (rcells L)) := by
          unfold OwnR at hown
          rw [hlk, hLL] at hown
          exact hown
        have HLL := Lib.hid hLL
        clear hLL
        have HBEL := Lib.hid hbel
        by_cases hlt : k < ov.length
        · obtain ⟨b, o, rfl, hb, hr⟩ := HR.out (by omega)
          have hrr := (hr k hlt).keep fun o => (hbel.cell (p := ⟨b, o, none⟩) hb).trans (HB1.out.cell (p := ⟨b, o, none⟩) hb).symm
          have hbl : b < wr.heap.size := Nat.lt_of_lt_of_le hb hbel.size
          have htk : (ov.take (k + 1)).map (clip1 f t) = (ov.take k).map (clip1 f t) ++ [clip1 f t ov[k]] := by
            rw [List.take_succ_eq_append_getElem hlt, List.map_append]; rfl
          generalize ov[k] = r at hrr htk
          obtain ⟨rf, re, rk, rn, rs⟩ := r
          obtain ⟨c0, c1, c2, c3, c4⟩ := hrr
          simp only at c0 c1 c2 c3 c4
          have HTK := Lib.hid htk
          have hsz2 : wr.heap.size < wr.heap.size + 1 := by omega
          clear hlk
          have hwz : w.heap.size ≤ wr.heap.size := hbel.size
          clear hown hbel hr htk
          by_cases hm1 : rf < f
          · by_cases hm2 : t < re
            · have HCL : Hid (clip1 f t (rf, re, rk, rn, rs) = (f, t, rk, rn, rs)) := by unfold Hid clip1; simp only; rw [show max rf f = f by omega, show min re t = t by omega]
              go_wp2_with (at_builtin; go_must (refine wpList_append_lies _ rfl _ _ 22 rfl w.heap.size 52 i0 _ 5 48 Try.underlying22 hi hz0 hz1 hz2 rfl (by omega) _ k (rcells L) rfl ?own3 ⟨wr.heap.size + 1, 0, none⟩ 1 1 (rowC (f, t, rk, rn, rs)) rfl rfl ?news3 ?one3 (by omega) ?c33 ?c43 ?c53 _ rfl ?_))
              case own3 => exact World.ownsRow.alloc (World.ownsRow.alloc HO.out _) _
              case news3 =>
                refine World.news_of_block (cs := #[.int .i64 f, .int .i64 t, .int .i64 rk, .int .i64 rn, .string rs]) (t := 52) (fr := (0, 0)) ?_
                have h := heap_alloc_new (wr.alloc (.cells #[.int .i64 rf, .int .i64 re, .int .i64 rk, .int .i64 rn, .string rs] 52)) (.cells #[.int .i64 f, .int .i64 t, .int .i64 rk, .int .i64 rn, .string rs] 52)
                simpa using h
              case one3 => simp [rowC, Value.oneCell']
              case c33 => unfold maxLen; omega
              case c43 => omega
              case c53 => first | omega | (simp; omega)
              rintro g c w' ho hg hgl hlt'
              have HF : Hid (OwnR w' w.heap.size (.slice (some ⟨g, 0, none⟩) (k + 1) c) ((ov.take (k + 1)).map (clip1 f t))) := by
                unfold Hid OwnR
                rw [HTK.out, HCL.out, List.length_append, List.length_map, List.length_take, rcells_append, HLL.out]
                have e : min k ov.length + [((f, t, rk, rn, rs) : Row)].length = k + 1 := by simp; omega
                rw [e]
                have e2 : rcells [(f, t, rk, rn, rs)] = rowC (f, t, rk, rn, rs) := by simp [rcells]
                rw [e2]
                exact ho
              have HB2 : Hid (Below w.heap.size w w') := by
                refine ((HBEL.out.alloc hwz _).alloc (by simp; omega) _).grown hg (by simp; omega) (fun j hj => (World.ownsRow.lt HO.out j hj).1)
              clear ho hg hgl HO
              go_wp2
              go_roundw
              case rel => exact ⟨k + 1, by omega, by go_num, HF.out, HB2.out⟩
              case measure => simp [intOf]; omega
            · have HCL : Hid (clip1 f t (rf, re, rk, rn, rs) = (f, re, rk, rn, rs)) := by unfold Hid clip1; simp only; rw [show max rf f = f by omega, show min re t = re by omega]
              go_wp2_with (at_builtin; go_must (refine wpList_append_lies _ rfl _ _ 22 rfl w.heap.size 52 i0 _ 5 48 Try.underlying22 hi hz0 hz1 hz2 rfl (by omega) _ k (rcells L) rfl ?own4 ⟨wr.heap.size + 1, 0, none⟩ 1 1 (rowC (f, re, rk, rn, rs)) rfl rfl ?news4 ?one4 (by omega) ?c34 ?c44 ?c54 _ rfl ?_))
              case own4 => exact World.ownsRow.alloc (World.ownsRow.alloc HO.out _) _
              case news4 => exact fun j u h => h
              case one4 => simp [rowC, Value.oneCell']
              case c34 => unfold maxLen; omega
              case c44 => omega
              case c54 => first | omega | (simp; omega)
              rintro g c w' ho hg hgl hlt'
              have HF : Hid (OwnR w' w.heap.size (.slice (some ⟨g, 0, none⟩) (k + 1) c) ((ov.take (k + 1)).map (clip1 f t))) := by
                unfold Hid OwnR
                rw [HTK.out, HCL.out, List.length_append, List.length_map, List.length_take, rcells_append, HLL.out]
                have e : min k ov.length + [((f, re, rk, rn, rs) : Row)].length = k + 1 := by simp; omega
                rw [e]
                have e2 : rcells [(f, re, rk, rn, rs)] = rowC (f, re, rk, rn, rs) := by simp [rcells]
                rw [e2]
                exact ho
              have HB2 : Hid (Below w.heap.size w w') := by
                refine ((HBEL.out.alloc hwz _).alloc (by simp; omega) _).grown hg (by simp; omega) (fun j hj => (World.ownsRow.lt HO.out j hj).1)
              clear ho hg hgl HO
              go_wp2
              go_roundw
              case rel => exact ⟨k + 1, by omega, by go_num, HF.out, HB2.out⟩
              case measure => simp [intOf]; omega
          · by_cases hm2 : t < re
            · have HCL : Hid (clip1 f t (rf, re, rk, rn, rs) = (rf, t, rk, rn, rs)) := by unfold Hid clip1; simp only; rw [show max rf f = rf by omega, show min re t = t by omega]
              go_wp2_with (at_builtin; go_must (refine wpList_append_lies _ rfl _ _ 22 rfl w.heap.size 52 i0 _ 5 48 Try.underlying22 hi hz0 hz1 hz2 rfl (by omega) _ k (rcells L) rfl ?own1 ⟨wr.heap.size + 1, 0, none⟩ 1 1 (rowC (rf, t, rk, rn, rs)) rfl rfl ?news1 ?one1 (by omega) ?c31 ?c41 ?c51 _ rfl ?_))
              case own1 => exact World.ownsRow.alloc (World.ownsRow.alloc HO.out _) _
              case news1 => exact fun j u h => h
              case one1 => simp [rowC, Value.oneCell']
              case c31 => unfold maxLen; omega
              case c41 => omega
              case c51 => first | omega | (simp; omega)
              rintro g c w' ho hg hgl hlt'
              have HF : Hid (OwnR w' w.heap.size (.slice (some ⟨g, 0, none⟩) (k + 1) c) ((ov.take (k + 1)).map (clip1 f t))) := by
                unfold Hid OwnR
                rw [HTK.out, HCL.out, List.length_append, List.length_map, List.length_take, rcells_append, HLL.out]
                have e : min k ov.length + [((rf, t, rk, rn, rs) : Row)].length = k + 1 := by simp; omega
                rw [e]
                have e2 : rcells [(rf, t, rk, rn, rs)] = rowC (rf, t, rk, rn, rs) := by simp [rcells]
                rw [e2]
                exact ho
              have HB2 : Hid (Below w.heap.size w w') := by
                refine ((HBEL.out.alloc hwz _).alloc (by simp; omega) _).grown hg (by simp; omega) (fun j hj => (World.ownsRow.lt HO.out j hj).1)
              clear ho hg hgl HO
              go_wp2
              go_roundw
              case rel => exact ⟨k + 1, by omega, by go_num, HF.out, HB2.out⟩
              case measure => simp [intOf]; omega
            · have HCL : Hid (clip1 f t (rf, re, rk, rn, rs) = (rf, re, rk, rn, rs)) := by unfold Hid clip1; simp only; rw [show max rf f = rf by omega, show min re t = re by omega]
              go_wp2_with (at_builtin; go_must (refine wpList_append_lies _ rfl _ _ 22 rfl w.heap.size 52 i0 _ 5 48 Try.underlying22 hi hz0 hz1 hz2 rfl (by omega) _ k (rcells L) rfl ?own2 ⟨wr.heap.size + 1, 0, none⟩ 1 1 (rowC (rf, re, rk, rn, rs)) rfl rfl ?news2 ?one2 (by omega) ?c32 ?c42 ?c52 _ rfl ?_))
              case own2 => exact World.ownsRow.alloc (World.ownsRow.alloc HO.out _) _
              case news2 => exact fun j u h => h
              case one2 => simp [rowC, Value.oneCell']
              case c32 => unfold maxLen; omega
              case c42 => omega
              case c52 => first | omega | (simp; omega)
              rintro g c w' ho hg hgl hlt'
              have HF : Hid (OwnR w' w.heap.size (.slice (some ⟨g, 0, none⟩) (k + 1) c) ((ov.take (k + 1)).map (clip1 f t))) := by
                unfold Hid OwnR
                rw [HTK.out, HCL.out, List.length_append, List.length_map, List.length_take, rcells_append, HLL.out]
                have e : min k ov.length + [((rf, re, rk, rn, rs) : Row)].length = k + 1 := by simp; omega
                rw [e]
                have e2 : rcells [(rf, re, rk, rn, rs)] = rowC (rf, re, rk, rn, rs) := by simp [rcells]
                rw [e2]
                exact ho
              have HB2 : Hid (Below w.heap.size w w') := by
                refine ((HBEL.out.alloc hwz _).alloc (by simp; omega) _).grown hg (by simp; omega) (fun j hj => (World.ownsRow.lt HO.out j hj).1)
              clear ho hg hgl HO
              go_wp2
              go_roundw
              case rel => exact ⟨k + 1, by omega, by go_num, HF.out, HB2.out⟩
              case measure => simp [intOf]; omega
        · have hkk : k = ov.length := by omega
          have HF : Hid (OwnR wr w.heap.size (.slice sA k scap) ans) := by
            unfold Hid
            have h := hown
            rw [show ov.take k = ov from List.take_of_length_le (by omega), HE.out] at h
            exact h
          clear hown hbel HO hkk hlk
          go_wp2
          go_ret
          exact ⟨_, rfl, HF.out, HBEL.out⟩
    · have he : ans = [] := by rw [← HANS.out, clipR, decide_eq_false hft]; simp
      subst he
      clear hok HANS
      go_enter Try.func20, Try.ntmps20
      go_wp2_with fail
      refine HC.out.mono ?_
      rintro e' w1 ⟨rfl, hb1⟩
      have HB1 := Lib.hid hb1
      clear hb1
      go_wp2
      go_ret
      exact ⟨_, rfl, OwnR.nil _ _, HB1.out⟩
end Go.Proofs.Ytecefhoinggmgaa
