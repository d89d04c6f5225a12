/-
  A tape and rows of strings beside it; the walk of TapeWhole. No condition.
-/
import Derived.Test.YtelfomdlbldnpaaDoorYR
namespace Go.Proofs.YtelfomdlbldnpaaDoor
open Go.RowKit

/-- What lies in rows of strings has not turned. -/
def Keep9 (w w' : World) : Prop := ∀ (k : Nat) (cs : Array Value), w.heap[k]? = some (Obj.cells cs 9 (0, 0)) → w'.heap[k]? = w.heap[k]?
theorem Keep9.row {w w' : World} (h : Keep9 w w') {B : Nat} {v : Value} {n : Nat} {xs : List Value} (ho : w.ownsRow B 9 1 v n xs) : w'.ownsRow B 9 1 v n xs := row_keep ho fun k hk => by
  obtain ⟨cs, hc⟩ := row_ty ho hk
  exact h k cs hc
theorem Keep9.of {F : Nat → Prop} {w w' : World} (ht : Turn F w w') (hF : ∀ k, F k → ∃ cs t, w.heap[k]? = some (Obj.cells cs t (0, 0)) ∧ t ≠ 9) : Keep9 w w' := fun k cs hc => ht.block k (Array.getElem?_eq_some_iff.1 hc).1 (fun hk => by
  obtain ⟨cs', t, hc', ht9⟩ := hF k hk
  exact ty_ne hc' hc ht9 rfl)
theorem TN.core {w0 w : World} {bt bl b : Nat} {d : D} {t : T} (h : TN w0 w bt bl b d t) : ∃ F, TAt w F bt bl b d t ∧ (∀ k, F k → w0.heap.size ≤ k) ∧ w0.heap.size ≤ bt ∧ w0.heap.size ≤ bl ∧ Below w0.heap.size w0 w ∧ ∀ k, F k → ∃ cs ty, w.heap[k]? = some (Obj.cells cs ty (0, 0)) ∧ (ty = 66 ∨ ty = 97 ∨ ty = 99) := by
  obtain ⟨F, h1, h2, h3, h4, h5⟩ := h
  obtain ⟨G, g1, g2, g3⟩ := h1.p.core
  exact ⟨G, ⟨h1.l, g1, h1.ok, fun hk => h1.n1 (g2 _ hk), fun hk => h1.n2 (g2 _ hk)⟩, fun k hk => h2 k (g2 k hk), h3, h4, h5, g3⟩
theorem fl9 {w : World} {F : Nat → Prop} {bt bl b : Nat} {t : T} (hl : LogAt w bt bl b t) (hF : ∀ k, F k → ∃ cs ty, w.heap[k]? = some (Obj.cells cs ty (0, 0)) ∧ (ty = 66 ∨ ty = 97 ∨ ty = 99)) : ∀ k, FL F bl k → ∃ cs t, w.heap[k]? = some (Obj.cells cs t (0, 0)) ∧ t ≠ 9 := fun k hk => by
  rcases hk with hk | rfl
  · obtain ⟨cs, ty, hc, ht⟩ := hF k hk
    exact ⟨cs, ty, hc, by rcases ht with rfl | rfl | rfl <;> decide⟩
  · exact ⟨_, _, hl.rl, by decide⟩
theorem appendK {w0 w : World} {bt bl b : Nat} {d : D} {t : T} (h : TN w0 w bt bl b d t) (hw : d.W.length + 4096 ≤ 1000000) (hc : t.count < 1000000) (s : ByteArray) (hs : s.size ≤ 1000000000) :
    Calls Tryd.prog 26 #[.pointer (some ⟨bt, 0, none⟩), .string s] w fun e w' => e = .returned (.int .i64 (appE t d s)) ∧ TN w0 w' bt bl b (appD t d s) (appT t d s) ∧ Keep9 w w' ∧ Below w0.heap.size w w' := by
  obtain ⟨F, h1, h2, h3, h4, h5, h6⟩ := h.core
  refine (append26 h1 hw hc s hs).mono ?_
  rintro e w' ⟨he, G, g1, g2, g3⟩
  have hb := g3.below _ h5.size (fun k hk => by rcases hk with hk | rfl; exact h2 k hk; exact h4)
  exact ⟨he, ⟨G, g1, fun k hk => by rcases g2 k hk with h | h; exact h2 k h; exact Nat.le_trans h5.size h, h3, h4, h5.trans hb⟩, Keep9.of g3 (fl9 h1.l h6), hb⟩
theorem settleK {w0 w : World} {bt bl b : Nat} {d : D} {t : T} (h : TN w0 w bt bl b d t) (hw : d.W.length ≤ 1000000) :
    Calls Tryd.prog 20 #[.pointer (some ⟨bt, 0, none⟩)] w fun e w' => e = .returned (.int .i64 (flushE t d)) ∧ TN w0 w' bt bl b (flushD t d) (flushT t d) ∧ Keep9 w w' ∧ Below w0.heap.size w w' := by
  obtain ⟨F, h1, h2, h3, h4, h5, h6⟩ := h.core
  refine (settle20 h1 hw).mono ?_
  rintro e w' ⟨he, g1, g3⟩
  have hb := g3.below _ h5.size (fun k hk => by rcases hk with hk | rfl; exact h2 k hk; exact h4)
  exact ⟨he, ⟨F, g1, h2, h3, h4, h5.trans hb⟩, Keep9.of g3 (fl9 h1.l h6), hb⟩
theorem crashK {w0 w : World} {b : Nat} {d : D} (h : PN w0 w b d) (hw : d.W.length ≤ 1000000) (l : List Int) (lv : Value) (hl : IntsAt w w.heap.size lv l) (hll : l.length ≤ 1000000) :
    Calls Tryd.prog 21 #[.pointer (some ⟨b, 0, none⟩), lv] w fun e w' => e = .returned (.int .i64 0) ∧ PN w0 w' b (crashD d l) ∧ Keep9 w w' ∧ Below w0.heap.size w w' := by
  obtain ⟨F, hP, hF, hB⟩ := h
  obtain ⟨G, g1, g2, g3⟩ := hP.core
  refine (crash16 g1 hw l lv hl hll).mono ?_
  rintro e w' ⟨he, hP', hT⟩
  exact ⟨he, PN.turn (fun k hk => hF k (g2 k hk)) hB hP' hT, Keep9.of hT (fun k hk => by obtain ⟨cs, ty, hc, ht⟩ := g3 k hk; exact ⟨cs, ty, hc, by rcases ht with rfl | rfl | rfl <;> decide⟩), hT.below _ hB.size (fun k hk => hF k (g2 k hk))⟩
theorem TN.grown {w0 w w' : World} {bt bl b : Nat} {d : D} {t : T} {row : Option Nat} (h : TN w0 w bt bl b d t) (hg : w.grownBy w' row) (hr : ∀ k, row = some k → w0.heap.size ≤ k ∧ ∃ cs, w.heap[k]? = some (Obj.cells cs 9 (0, 0))) : TN w0 w' bt bl b d t := by
  obtain ⟨F, h1, h2, h3, h4, h5, h6⟩ := h.core
  have hne : ∀ (k : Nat) (cs : Array Value) (ty : TypeId), w.heap[k]? = some (Obj.cells cs ty (0, 0)) → ty ≠ 9 → w'.heap[k]? = w.heap[k]? := fun k cs ty hc hty => hg.block k (Array.getElem?_eq_some_iff.1 hc).1 (fun e => by
    obtain ⟨-, cs', hc'⟩ := hr k e.symm
    exact ty_ne hc hc' hty rfl)
  have hT : Turn (fun k => row = some k) w w' := Turn.of_grown hg (fun k e => e)
  refine ⟨F, ⟨h1.l.keep (hne _ _ _ h1.l.rt (by decide)) (hne _ _ _ h1.l.rl (by decide)), h1.p.keep hT (fun k hk e => ?_), h1.ok, h1.n1, h1.n2⟩, h2, h3, h4, h5.grown hg h5.size (fun k e => (hr k e).1)⟩
  obtain ⟨cs, ty, hc, ht⟩ := h6 k hk
  obtain ⟨-, cs', hc'⟩ := hr k e
  exact ty_ne hc hc' (by rcases ht with rfl | rfl | rfl <;> decide) rfl

set_option maxRecDepth 100000 in
set_option maxHeartbeats 4000000 in
theorem whole5_in (n : Nat) (l : List ByteArray) (lv : Value) (w : World) (hl : SAt w w.heap.size lv l) (h1 : 1 ≤ n) (h2 : n ≤ 200) (hll : l.length ≤ 60) :
    Calls Tryd.prog 5 #[.int .i64 (n : Int), lv] w fun e w' => e = .returned (.bool true) ∧ Below w.heap.size w w' := by
  obtain ⟨lA, lc, rfl, -⟩ := id hl
  have HL := Lib.hid hl
  obtain ⟨w1, w2, w3⟩ := Wh.new n
  have HW0 := Lib.hid w1
  have HOE := Lib.hid w2
  have HRE := Lib.hid w3
  clear hl w1 w2 w3
  have HN := Lib.hid (newN n h1 (by omega) w)
  have t1 : ¬ (n : Int) < 1 := by omega
  have t2 : ¬ (200 : Int) < (n : Int) := by omega
  have t3 : ¬ (60 : Int) < (l.length : Int) := by omega
  obtain ⟨m, hm⟩ : ∃ m, l.length = m := ⟨_, rfl⟩
  rw [hm] at t3 hll ⊢
  have HM := Lib.hid hm
  clear hm
  go_enter Tryd.func5, Tryd.ntmps5
  go_wp2_with fail
  refine HN.out.mono ?_
  rintro e w1 ⟨b, rfl, hP⟩
  have HO := Lib.hid (openN hP (by show ([] : List (Nat × ByteArray)).length ≤ _; simp) HOE.out)
  clear hP HN
  go_wp2_with fail
  refine HO.out.mono ?_
  rintro e w2 ⟨bt, bl, v, rfl, hT, ho, -⟩
  have HT0 := Lib.hid hT
  clear hT ho HO
  go_wp2_with fail
  obtain ⟨i9, hi9, hz90, hz91, hz92⟩ := info9
  go_loopw [10, 11, 12] (fun s10 s11 s12 wr => ∃ (i used : Nat) (had : List ByteArray) (d : D) (t : T), s12 = .int .i64 (i : Int) ∧ s11 = .int .i64 (used : Int) ∧ i ≤ m ∧ used ≤ n ∧ had.length ≤ i ∧ Hid ((allSecs 1 1 had).length = used) ∧ Hid (Wh n had d t) ∧ Hid (TN w wr bt bl b d t) ∧ Hid (wr.ownsRow w.heap.size 9 1 s10 had.length (strs had))) (fun _ _ s12 _ => m - (intOf s12).toNat)
  case atStart => exact ⟨0, 0, [], _, _, rfl, rfl, Nat.zero_le _, Nat.zero_le _, Nat.zero_le _, rfl, HW0, HT0, World.ownsRow_nil _ _ _ _⟩
  case round =>
    obtain ⟨i, used, had, d, t, rfl, rfl, hi, hu, hh, HU, HW, HT, HO⟩ := hrel
    clear HT0 HW0 HOE HRE
    obtain ⟨vA, vc, rfl⟩ := row_slice HO.out
    by_cases hlt : i < m
    · have hil : i < l.length := by rw [HM.out]; exact hlt
      obtain ⟨lb, lo, rfl⟩ := HL.out.some_ (by omega)
      have hbel := HT.out.pn.old
      have hc := SAt.cell (HL.out.below hbel) i hil
      obtain ⟨s, hs⟩ : ∃ s, l[i] = s := ⟨_, rfl⟩
      rw [hs] at hc
      have hii : (i : Int) < (m : Int) := by omega
      clear hs hil hbel
      by_cases hbig : s.size ≤ 3000
      · have hsz : ¬ (3000 : Int) < (s.size : Int) := by omega
        have hdw : d.W.length ≤ n := by rw [HW.out.w, pend_len]; exact HW.out.le
        have htc : t.count = had.length := by rw [HW.out.t]
        have HA := Lib.hid (appendK HT.out (by omega) (by omega) s (by omega))
        have HAP := Lib.hid (HW.out.app s)
        have HND := Lib.hid (need17n s.size (by omega))
        obtain ⟨nd, hnd⟩ : ∃ nd, needN s.size = nd := ⟨_, rfl⟩
        rw [hnd] at HND HAP
        rw [HU.out] at HAP
        have HNDE := Lib.hid hnd
        clear hnd hdw htc
        have hcl := hc
        by_cases hf : nd + used ≤ n
        · obtain ⟨a1, a2⟩ := HAP.out.1 hf
          rw [a1] at HA
          have HW2 := Lib.hid a2
          have hle : (nd : Int) ≤ (n : Int) - (used : Int) := by omega
          have hld : decide ((nd : Int) ≤ (n : Int) - (used : Int)) = true := decide_eq_true hle
          clear a1 a2 HAP
          go_wp2_with fail
          refine HA.out.mono ?_
          rintro e w5 ⟨rfl, hT5, hk5, hb5⟩
          have HT5 := Lib.hid hT5
          have HO5 := Lib.hid (hk5.row HO.out)
          have hc5 : w5.cell? ⟨lb, lo + i, none⟩ = some (.string s) := by rw [hb5.cell (p := ⟨lb, lo + i, none⟩) (by obtain ⟨a', c', e, h⟩ := HL.out; obtain ⟨b', o', rfl, hlt', -⟩ := h (by rw [HM.out]; omega); injection e with e1; injection e1 with e1; injection e1 with e4; rw [e4]; exact hlt')]; exact hc
          clear hT5 hk5 hb5 HA HT HO hc hcl
          have hbA : Below w5.heap.size w5 (w5.alloc (.cells #[.string s] 9)) := (Below.refl _ _).alloc (Nat.le_refl _) _
          have HTA := Lib.hid (HT5.out.below hbA)
          have HOA : Hid ((w5.alloc (.cells #[.string s] 9)).ownsRow w.heap.size 9 1 (.slice vA had.length vc) had.length (strs had)) := HO5.out.alloc _
          have HNE : Hid (∀ j u, ([.string s] : List Value)[j]? = some u → (w5.alloc (.cells #[.string s] 9)).cell? ((⟨w5.heap.size, 0, none⟩ : Addr).add j) = some u) := fun j u hu => World.news_of_block (cs := #[.string s]) (t := 9) (fr := (0, 0)) (heap_alloc_new w5 _) j u hu
          have HSZ : Hid (w.heap.size ≤ (w5.alloc (.cells #[.string s] 9)).heap.size) := HTA.out.pn.old.size
          have HFIN : Hid (∀ g' cap w6, w6.ownsRow w.heap.size 9 1 (.slice (some ⟨g', 0, none⟩) (had.length + 1) cap) (had.length + 1) (strs had ++ [.string s]) → (w5.alloc (.cells #[.string s] 9)).grownBy w6 (Value.ownBlock (.slice vA had.length vc)) →
              TN w w6 bt bl b (appD t d s) (appT t d s) ∧ w6.ownsRow w.heap.size 9 1 (.slice (some ⟨g', 0, none⟩) (had.length + 1) cap) (had ++ [s]).length (strs (had ++ [s]))) := by
            intro g' cap w6 ho6 hg6
            refine ⟨HTA.out.grown hg6 (fun k hk => ⟨row_ge HOA.out hk, row_ty HOA.out hk⟩), ?_⟩
            unfold strs
            rw [List.length_append, List.map_append]
            exact ho6
          have HU2 : Hid ((allSecs 1 1 (had ++ [s])).length = used + nd) := by unfold Hid; rw [allSecs_snoc, List.length_append, secsOf_len, HU.out, HNDE.out]
          clear hbA HT5 HO5
          go_wp2_with (first | (go_at_call 17; refine (HND.out _).mono ?_; rintro e w' ⟨rfl, rfl⟩) | (at_builtin; refine wpList_append_lies _ rfl _ _ 41 rfl w.heap.size 9 i9 _ 1 16 Tryd.underlying41 hi9 hz90 hz91 hz92 rfl (by omega) (.slice vA had.length vc) had.length (strs had) rfl HOA.out ⟨w5.heap.size, 0, none⟩ 1 1 [.string s] rfl rfl HNE.out (by intro u hu; simp at hu; subst hu; rfl) (by omega) (by unfold maxLen; omega) (by omega) HSZ.out _ rfl ?_; intro g' cap w6 ho6 hg6 hat6 hlt6; have HF := Lib.hid (HFIN.out _ _ _ ho6 hg6); clear ho6 hg6 hat6 hlt6))
          go_roundw
          case rel => exact ⟨i + 1, used + nd, had ++ [s], _, _, by go_num, by go_num, by omega, by omega, by rw [List.length_append]; exact Nat.add_le_add_right hh 1, HU2, HW2, HF.out.1, HF.out.2⟩
          case measure => simp [intOf]; omega
        · obtain ⟨a1, a2, a3⟩ := HAP.out.2 hf
          rw [a1] at HA
          have hle : ¬ (nd : Int) ≤ (n : Int) - (used : Int) := by omega
          have hld : decide ((nd : Int) ≤ (n : Int) - (used : Int)) = false := decide_eq_false hle
          have HEQ : Hid (appD t d s = d ∧ appT t d s = t) := ⟨a2, a3⟩
          clear a1 a2 a3 HAP
          go_wp2_with fail
          refine HA.out.mono ?_
          rintro e w5 ⟨rfl, hT5, hk5, hb5⟩
          have HT5 := Lib.hid hT5
          rw [HEQ.out.1, HEQ.out.2] at HT5
          have HO5 := Lib.hid (hk5.row HO.out)
          have hc5 : w5.cell? ⟨lb, lo + i, none⟩ = some (.string s) := by rw [hb5.cell (p := ⟨lb, lo + i, none⟩) (by obtain ⟨a', c', e, h⟩ := HL.out; obtain ⟨b', o', rfl, hlt', -⟩ := h (by rw [HM.out]; omega); injection e with e1; injection e1 with e1; injection e1 with e4; rw [e4]; exact hlt')]; exact hc
          clear hT5 hk5 hb5 HA HT HO hc hcl
          go_wp2_with (first | (go_at_call 17; refine (HND.out _).mono ?_; rintro e w' ⟨rfl, rfl⟩) | fail)
          go_roundw
          case rel => exact ⟨i + 1, used, had, d, t, by go_num, by go_num, by omega, hu, by omega, HU, HW, HT5, HO5⟩
          case measure => simp [intOf]; omega
      · have hsz : (3000 : Int) < (s.size : Int) := by omega
        have HLV := Lib.hid (lives8 wr)
        have HB := Lib.hid HT.out.pn.old
        clear HT HW HO HU hbig
        go_wp2_with (go_at_call 8; refine HLV.out.mono ?_; rintro e w3 ⟨rfl, hb3⟩; have HB3 := Lib.hid hb3; clear hb3)
        go_ret
        exact ⟨rfl, HB.out.trans (HB3.out.mono HB.out.size)⟩
    · have hni : ¬ (i : Int) < (m : Int) := by omega
      have hdw : d.W.length ≤ n := by rw [HW.out.w, pend_len]; exact HW.out.le
      obtain ⟨se, sd⟩ := HW.out.settle
      have HSE := Lib.hid (settleK HT.out (by omega))
      rw [se, sd] at HSE
      have hle := HW.out.le
      obtain ⟨ag1, ag2, ag3, ag4⟩ := Wh.again (n := n) (l := had) (by omega) HW.out.le (by omega)
      have HAG1 := Lib.hid ag1
      have HAG2 := Lib.hid ag2
      have HAG3 := Lib.hid ag3
      have HAG4 := Lib.hid ag4
      have HRL : Hid ((rest (allSecs 1 1 had ++ List.replicate (n - (allSecs 1 1 had).length) z64)).S.length = n) := by unfold Hid rest; simp only [List.length_append, List.length_replicate]; omega
      have HRW : Hid ((rest (allSecs 1 1 had ++ List.replicate (n - (allSecs 1 1 had).length) z64)).W = []) := rfl
      have HRC := Lib.hid (crash_rest (allSecs 1 1 had ++ List.replicate (n - (allSecs 1 1 had).length) z64))
      have hpos : (flushT t d).pos = used := by unfold flushT; rw [HW.out.t]; exact HU.out
      have HPOS := Lib.hid hpos
      generalize rest (allSecs 1 1 had ++ List.replicate (n - (allSecs 1 1 had).length) z64) = R at HSE HAG1 HAG2 HAG3 HAG4 HRL HRW HRC
      rw [HU.out] at HAG4
      have hnu : ((n - used : Nat) : Int) = (n : Int) - (used : Int) := by omega
      clear ag1 ag2 ag3 ag4 se sd hdw hle hpos
      go_wp2_with fail
      refine HSE.out.mono ?_
      rintro e w5 ⟨rfl, hT5, hk5, hb5⟩
      have HT5 := Lib.hid hT5
      have HO5 := Lib.hid (hk5.row HO.out)
      have HRM := Lib.hid (roomT hT5)
      rw [HRL.out, HPOS.out, hnu] at HRM
      clear hT5 hk5 hb5 HSE HT HO
      go_wp2_with fail
      refine HRM.out.mono ?_
      rintro e w6 ⟨rfl, hb6⟩
      have HP6 := Lib.hid (HT5.out.pn.below hb6)
      have HO6 : Hid (w6.ownsRow w.heap.size 9 1 (.slice vA had.length vc) had.length (strs had)) := row_keep HO5.out (fun k hk => hb6.block k (row_lt HO5.out hk))
      have HCR := Lib.hid (crashK HP6.out (by rw [HRW.out]; simp) [] (.slice none 0 0) (IntsAt.nil _ _) (by simp))
      rw [HRC.out] at HCR
      clear hb6 HRM HT5 HO5
      go_wp2_with fail
      refine HCR.out.mono ?_
      rintro e w7 ⟨rfl, hP7, hk7, -⟩
      have HO7 := Lib.hid (hk7.row HO6.out)
      have HOP := Lib.hid (openN hP7 (by rw [HRW.out]; simp) HAG1.out)
      clear hP7 hk7 HCR HP6 HO6
      go_wp2_with fail
      refine HOP.out.mono ?_
      rintro e w8 ⟨bt2, bl2, v2, rfl, hT8, ho8, hb8⟩
      have HT8 := Lib.hid hT8
      have hs1 : StrsAt w8 v2 had := by
        rw [HAG2.out] at ho8
        exact row_base ho8 (Nat.zero_le _)
      have hs2 : StrsAt w8 (.slice vA had.length vc) had := row_base (row_keep HO7.out (fun k hk => hb8.block k (row_lt HO7.out hk))) (Nat.zero_le _)
      have HSM := Lib.hid (same16 hs1 hs2 (by omega))
      obtain ⟨vA2, vc2, rfl⟩ := row_slice ho8
      simp only [decide_true] at HSM
      clear hT8 ho8 hb8 hs1 hs2 HOP HO7
      go_wp2_with fail
      refine HSM.out.mono ?_
      rintro e w9 ⟨rfl, n9, rfl⟩
      have HT9 := Lib.hid (HT8.out.below (below_drewN (Below.refl _ _) n9))
      have HRM := Lib.hid (roomT HT9.out)
      rw [HRL.out, HAG4.out, hnu] at HRM
      clear HSM HT8
      go_wp2_with fail
      refine HRM.out.mono ?_
      rintro e w10 ⟨rfl, hb10⟩
      have HT10 := Lib.hid (HT9.out.below hb10)
      have HLN := Lib.hid (lenT HT10.out)
      rw [HAG3.out] at HLN
      clear hb10 HRM HT9
      go_wp2_with fail
      refine HLN.out.mono ?_
      rintro e w' ⟨rfl, rfl⟩
      have HLO := Lib.hid (looseN HT10.out.pn)
      rw [HRW.out] at HLO
      clear HLN
      go_wp2_with fail
      refine HLO.out.mono ?_
      rintro e w' ⟨rfl, rfl⟩
      have HLV := Lib.hid (lives8 w10)
      have HB := Lib.hid HT10.out.pn.old
      clear HLO HT10
      go_wp2_with (go_at_call 8; refine HLV.out.mono ?_; rintro e w3 ⟨rfl, hb3⟩; have HB3 := Lib.hid hb3; clear hb3)
      go_ret
      exact ⟨rfl, HB.out.trans (HB3.out.mono HB.out.size)⟩
end Go.Proofs.YtelfomdlbldnpaaDoor
