/-
  Contracts of Open and of the tape's methods but Append. No condition.
-/
import Derived.Test.YtjanddnlhaionaaGreatDoorL6YH
namespace Go.Proofs.YtjanddnlhaionaaGreatDoor.L6
open Go.RowKit Go.Shelf

set_option maxRecDepth 100000 in
theorem LogAt.keep {w w' : World} {bt bl b : Nat} {t : T} (h : LogAt w bt bl b t) (h1 : w'.heap[bt]? = w.heap[bt]?) (h2 : w'.heap[bl]? = w.heap[bl]?) : LogAt w' bt bl b t := ⟨by rw [h1]; exact h.rt, by rw [h2]; exact h.rl⟩
set_option maxRecDepth 100000 in
theorem LogAt.lt {w : World} {bt bl b : Nat} {t : T} (h : LogAt w bt bl b t) : bt < w.heap.size ∧ bl < w.heap.size := ⟨(Array.getElem?_eq_some_iff.1 h.rt).1, (Array.getElem?_eq_some_iff.1 h.rl).1⟩
set_option maxRecDepth 100000 in
theorem LogAt.below {w w' : World} {bt bl b : Nat} {t : T} (h : LogAt w bt bl b t) (hb : Below w.heap.size w w') : LogAt w' bt bl b t := h.keep (hb.block _ h.lt.1) (hb.block _ h.lt.2)
set_option maxRecDepth 100000 in
theorem LogAt.turn {w w' : World} {F : Nat → Prop} {bt bl b : Nat} {t : T} (h : LogAt w bt bl b t) (ht : Turn F w w') (h1 : ¬ F bt) (h2 : ¬ F bl) : LogAt w' bt bl b t := h.keep (ht.block _ h.lt.1 h1) (ht.block _ h.lt.2 h2)
set_option maxRecDepth 100000 in
theorem LogAt.c {w : World} {bt bl b : Nat} {t : T} (h : LogAt w bt bl b t) : w.cell? ⟨bt, 0, none⟩ = some (.pointer (some ⟨bl, 0, none⟩)) ∧ w.cell? ⟨bl, 0, none⟩ = some (.pointer (some ⟨b, 0, none⟩)) ∧ w.cell? ⟨bl, 1, none⟩ = some (.int .i64 (t.life : Int)) ∧ w.cell? ⟨bl, 2, none⟩ = some (.int .i64 (t.count : Int)) ∧ w.cell? ⟨bl, 3, none⟩ = some (.int .i64 (t.pos : Int)) ∧ w.cell? ⟨bl, 4, none⟩ = some (.int .i64 t.err) ∧ (∀ j, w.frozen? ⟨bl, j, none⟩ = false) :=
  ⟨cell_row h.rt rfl, cell_row h.rl rfl, cell_row h.rl rfl, cell_row h.rl rfl, cell_row h.rl rfl, cell_row h.rl rfl, fun j => frozen_of_row w bl j _ _ h.rl⟩
set_option maxRecDepth 100000 in
theorem LogAt.ne {w : World} {bt bl b : Nat} {t : T} (h : LogAt w bt bl b t) : bt ≠ bl := ty_ne h.rt h.rl (by decide)
set_option maxRecDepth 100000 in
theorem LogAt.set {w : World} {bt bl b : Nat} {t t' : T} (h : LogAt w bt bl b t) (j : Nat) (u : Value) (hu : (logRow b t).setIfInBounds j u = logRow b t') : LogAt (w.setCell ⟨bl, j, none⟩ u) bt bl b t' :=
  ⟨by rw [Below.heap_setCell _ _ _ _ h.ne]; exact h.rt, by rw [setCell_eq_setRow w bl j _ _ _ u h.rl, hu]; exact setRow_heap w bl _ _ _ _ h.rl⟩

set_option maxRecDepth 100000 in
theorem exists43 {w : World} {bt bl b : Nat} {t : T} (h : LogAt w bt bl b t) : Calls Tryz.prog 134 #[.pointer (some ⟨bt, 0, none⟩)] w fun e w' => e = .returned (.bool true) ∧ w = w' := by
  have c := h.c.1
  clear h
  go_enter Tryz.func134, Tryz.ntmps134
  go_wp2
  go_ret
  exact ⟨rfl, rfl⟩
def TNot (p : Value) (w : World) : Prop := Calls Tryz.prog 134 #[p] w fun e w' => e = .returned (.bool false) ∧ w = w'
set_option maxRecDepth 100000 in
theorem tNot_nil (w : World) : TNot (.pointer none) w := by
  unfold TNot
  go_enter Tryz.func134, Tryz.ntmps134
  go_wp2
  go_ret
  exact ⟨rfl, rfl⟩
set_option maxRecDepth 100000 in
theorem tNot_zero (w : World) (b : Nat) (h : w.cell? ⟨b, 0, none⟩ = some (.pointer none)) : TNot (.pointer (some ⟨b, 0, none⟩)) w := by
  unfold TNot
  go_enter Tryz.func134, Tryz.ntmps134
  go_wp2
  go_ret
  exact ⟨rfl, rfl⟩
set_option maxRecDepth 100000 in
theorem len25 {w : World} {bt bl b : Nat} {t : T} (h : LogAt w bt bl b t) : Calls Tryz.prog 85 #[.pointer (some ⟨bt, 0, none⟩)] w fun e w' => e = .returned (.int .i64 (t.count : Int)) ∧ w = w' := by
  have HE := Lib.hid (exists43 h)
  obtain ⟨c0, -, c1, c2, c3, c4, -⟩ := h.c
  clear h
  go_enter Tryz.func85, Tryz.ntmps85
  go_wp2_with (go_at_call 134; refine HE.out.mono ?_; rintro e w' ⟨rfl, rfl⟩)
  go_ret
  exact ⟨rfl, rfl⟩
set_option maxRecDepth 100000 in
theorem len25_no {p : Value} {w : World} (h : TNot p w) : Calls Tryz.prog 85 #[p] w fun e w' => e = .returned (.int .i64 0) ∧ w = w' := by
  have HE := Lib.hid h
  clear h
  go_enter Tryz.func85, Tryz.ntmps85
  go_wp2_with (go_at_call 134; refine HE.out.mono ?_; rintro e w' ⟨rfl, rfl⟩)
  go_ret
  exact ⟨rfl, rfl⟩
set_option maxRecDepth 100000 in
theorem room27_no {p : Value} {w : World} (h : TNot p w) : Calls Tryz.prog 84 #[p] w fun e w' => e = .returned (.int .i64 0) ∧ w = w' := by
  have HE := Lib.hid h
  clear h
  go_enter Tryz.func84, Tryz.ntmps84
  go_wp2_with (go_at_call 134; refine HE.out.mono ?_; rintro e w' ⟨rfl, rfl⟩)
  go_ret
  exact ⟨rfl, rfl⟩
set_option maxRecDepth 100000 in
theorem settle20_no {p : Value} {w : World} (h : TNot p w) : Calls Tryz.prog 133 #[p] w fun e w' => e = .returned (.int .i64 1) ∧ w = w' := by
  have HE := Lib.hid h
  clear h
  go_enter Tryz.func133, Tryz.ntmps133
  go_wp2_with (go_at_call 134; refine HE.out.mono ?_; rintro e w' ⟨rfl, rfl⟩)
  go_ret
  exact ⟨rfl, rfl⟩
set_option maxRecDepth 100000 in
theorem append26_no {p : Value} {w : World} (h : TNot p w) (s : ByteArray) : Calls Tryz.prog 132 #[p, .string s] w fun e w' => e = .returned (.int .i64 1) ∧ w = w' := by
  have HE := Lib.hid h
  clear h
  go_enter Tryz.func132, Tryz.ntmps132
  go_wp2_with (go_at_call 134; refine HE.out.mono ?_; rintro e w' ⟨rfl, rfl⟩)
  go_ret
  exact ⟨rfl, rfl⟩

structure OkT (d : D) (t : T) : Prop where
  c : t.count ≤ 1000000
  l : t.life ≤ 4294967295
  l0 : 0 < t.life
  p : t.pos ≤ d.S.length
set_option maxRecDepth 100000 in
theorem room49 {w : World} {F : Nat → Prop} {bt bl b : Nat} {t : T} {d : D} (h : LogAt w bt bl b t) (hp : PAt w F b d) (hok : OkT d t) : Calls Tryz.prog 135 #[.pointer (some ⟨bl, 0, none⟩)] w fun e w' => e = .returned (.int .i64 ((d.S.length - t.pos : Nat) : Int)) ∧ ∃ n, w' = w.drewN n := by
  obtain ⟨c0, cb, c1, c2, c3, c4, -⟩ := h.c
  have hn2 := hp.ok.n2
  have hpos := hok.p
  have HSZ := Lib.hid fun n => size25 (w := w.drewN n) (hp.below (below_drewN (Below.refl _ _) n))
  have hw : IntKind.i64.wrap ((d.S.length : Int) - (t.pos : Int)) = ((d.S.length - t.pos : Nat) : Int) := by rw [IntKind.wrap_i64]; omega
  clear h hp hok
  generalize d.S.length = n at *
  generalize (n - t.pos : Nat) = m at *
  go_enter Tryz.func135, Tryz.ntmps135
  go_wp2_with fail
  go_quiet ((go_at_call 172; exact quietS (HSZ.out _)))
  go_wp2
  go_ret
  exact ⟨by rw [← hw]; rfl, _, rfl⟩
set_option maxRecDepth 100000 in
theorem room27 {w : World} {F : Nat → Prop} {bt bl b : Nat} {t : T} {d : D} (h : LogAt w bt bl b t) (hp : PAt w F b d) (hok : OkT d t) : Calls Tryz.prog 84 #[.pointer (some ⟨bt, 0, none⟩)] w fun e w' => e = .returned (.int .i64 ((d.S.length - t.pos : Nat) : Int)) ∧ ∃ n, w' = w.drewN n := by
  have HE := Lib.hid (exists43 h)
  have HR := Lib.hid (room49 h hp hok)
  obtain ⟨c0, cb, c1, c2, c3, c4, -⟩ := h.c
  clear h hp hok
  generalize (d.S.length - t.pos : Nat) = m at *
  go_enter Tryz.func84, Tryz.ntmps84
  go_wp2_with (first | (go_at_call 134; refine HE.out.mono ?_; rintro e w' ⟨rfl, rfl⟩) | (go_at_call 135; refine HR.out.mono ?_; rintro e w' ⟨rfl, n, rfl⟩))
  go_ret
  exact ⟨rfl, _, rfl⟩

/-- A drum and a tape over it. -/
structure TAt (w : World) (F : Nat → Prop) (bt bl b : Nat) (d : D) (t : T) : Prop where
  l : LogAt w bt bl b t
  p : PAt w F b d
  ok : OkT d t
  n1 : ¬ F bt
  n2 : ¬ F bl
set_option maxRecDepth 100000 in
theorem settle_len' (d : D) : (settleD d).S.length = d.S.length := settle_len d
/-- What settling a tape may turn. -/
def FL (F : Nat → Prop) (bl k : Nat) : Prop := F k ∨ k = bl
set_option maxRecDepth 100000 in
theorem flush44 {w : World} {F : Nat → Prop} {bt bl b : Nat} {t : T} {d : D} (h : TAt w F bt bl b d t) (hw : d.W.length ≤ 1000000) :
    Calls Tryz.prog 171 #[.pointer (some ⟨bl, 0, none⟩)] w fun e w' => e = .returned (.int .i64 (flushE t d)) ∧ TAt w' F bt bl b (flushD t d) (flushT t d) ∧ Turn (FL F bl) w w' := by
  obtain ⟨-, cb, -, -, -, c4, cf⟩ := h.l.c
  have hcf := cf 4
  have HH := Lib.hid h
  have HS := Lib.hid (settle21 h.p hw)
  clear h cf
  obtain ⟨er, her⟩ : ∃ er, t.err = er := ⟨_, rfl⟩
  have HER := Lib.hid her
  rw [her] at c4
  by_cases h0 : er = 0
  · have e0 : (er == (0 : Int)) = true := by rw [h0]; rfl
    have HF : Hid (flushE t d = settleE d ∧ flushD t d = settleD d) := by unfold Hid flushE flushD; rw [HER.out, if_pos h0, if_pos h0]; exact ⟨rfl, rfl⟩
    rw [HF.out.1, HF.out.2]
    have HFT : Hid (flushT t d = { t with err := settleE d }) := by unfold Hid flushT; rw [HF.out.1]
    rw [HFT.out]
    clear her
    go_enter Tryz.func171, Tryz.ntmps171
    go_wp2_with fail
    refine HS.out.mono ?_
    rintro e w2 ⟨rfl, hp2, ht2⟩
    have hl2 := HH.out.l.turn ht2 HH.out.n1 HH.out.n2
    obtain ⟨-, -, -, -, -, d4, df⟩ := hl2.c
    have hdf := df 4
    have HL3 := Lib.hid (hl2.set (t' := { t with err := settleE d }) 4 (.int .i64 (settleE d)) rfl)
    have HP3 : Hid (PAt (w2.setCell ⟨bl, 4, none⟩ (.int .i64 (settleE d))) F b (settleD d) ∧ Turn (FL F bl) w (w2.setCell ⟨bl, 4, none⟩ (.int .i64 (settleE d)))) := by
      refine ⟨hp2.keep (G := fun k => k = bl) ((Turn.refl _ _).setCell _ _ (.inl rfl)) (fun k hk e => HH.out.n2 (e ▸ hk)), ((ht2.mono (fun i hi => .inl hi)).setCell _ _ (.inl (.inr rfl)))⟩
    clear hl2 df ht2 hp2
    go_wp2
    go_ret
    refine ⟨rfl, ⟨HL3.out, HP3.out.1, ⟨HH.out.ok.c, HH.out.ok.l, HH.out.ok.l0, by rw [settle_len]; exact HH.out.ok.p⟩, HH.out.n1, HH.out.n2⟩, HP3.out.2⟩
  · have e0 : (er == (0 : Int)) = false := by rw [beq_eq_false_iff_ne]; exact h0
    have HF : Hid (flushE t d = er ∧ flushD t d = d) := by unfold Hid flushE flushD; rw [HER.out, if_neg h0, if_neg h0]; exact ⟨rfl, rfl⟩
    rw [HF.out.1, HF.out.2]
    have HFT : Hid (flushT t d = t) := by unfold Hid flushT; rw [HF.out.1, ← HER.out]
    rw [HFT.out]
    clear her
    go_enter Tryz.func171, Tryz.ntmps171
    go_wp2
    go_ret
    exact ⟨rfl, HH.out, Turn.refl _ _⟩
set_option maxRecDepth 100000 in
theorem settle20 {w : World} {F : Nat → Prop} {bt bl b : Nat} {t : T} {d : D} (h : TAt w F bt bl b d t) (hw : d.W.length ≤ 1000000) :
    Calls Tryz.prog 133 #[.pointer (some ⟨bt, 0, none⟩)] w fun e w' => e = .returned (.int .i64 (flushE t d)) ∧ TAt w' F bt bl b (flushD t d) (flushT t d) ∧ Turn (FL F bl) w w' := by
  have HE := Lib.hid (exists43 h.l)
  have HF := Lib.hid (flush44 h hw)
  obtain ⟨c0, -, -, -, -, -, -⟩ := h.l.c
  clear h
  go_enter Tryz.func133, Tryz.ntmps133
  go_wp2_with (first | (go_at_call 134; refine HE.out.mono ?_; rintro e w' ⟨rfl, rfl⟩) | (go_at_call 171; refine HF.out.mono ?_; rintro e w' ⟨rfl, h1, h2⟩; have H1 := Lib.hid h1; have H2 := Lib.hid h2; clear h1 h2))
  go_ret
  exact ⟨rfl, H1.out, H2.out⟩

set_option maxRecDepth 100000 in
set_option maxHeartbeats 1000000 in
theorem open19 {F : Nat → Prop} {b : Nat} {d : D} {w : World} (h : PAt w F b d) (hw : d.W.length ≤ 1000000) :
    Calls Tryz.prog 74 #[.pointer (some ⟨b, 0, none⟩)] w fun e w' => Below w.heap.size w w' ∧
      if openE d = 0 then ∃ bt bl v, e = .returned (.tuple #[.pointer (some ⟨bt, 0, none⟩), v, .int .i64 0]) ∧ LogAt w' bt bl b (openT d) ∧ w.heap.size ≤ bt ∧ w.heap.size ≤ bl ∧ w'.ownsRow w.heap.size 9 1 v (scanD d).recs.length (strs (scanD d).recs)
      else e = .returned (.tuple #[.pointer none, .slice none 0 0, .int .i64 (openE d)]) := by
  have HS := Lib.hid (scanP h hw)
  have hgr := great_lt (shown d)
  have hrl := (scanL_ok (shown d)).1
  have hn2 := h.ok.n2
  have hsl : (shown d).length = d.S.length := by simp [shown]
  change (scanD d).great < _ at hgr
  change (scanD d).recs.length ≤ _ at hrl
  rw [hsl] at hrl
  clear h hsl
  unfold openE
  cases hg : d.gone with
  | true =>
    rw [hg] at HS
    simp only [if_true] at HS
    rw [if_pos (rfl : true = true)]
    simp only [show ¬ (9 : Int) = 0 by decide, if_false]
    go_enter Tryz.func74, Tryz.ntmps74
    go_wp2_with fail
    refine HS.out.mono ?_
    rintro e w2 ⟨hb, rfl⟩
    have HB := Lib.hid hb
    clear hb
    go_wp2
    refine bodyPost_ret (results_tmp3 rfl _ _ _) rfl ?_
    exact ⟨HB.out, rfl⟩
  | false =>
    rw [hg] at HS
    simp only [Bool.false_eq_true, if_false] at HS ⊢
    have HT : Hid (openT d = ⟨(scanD d).recs.length, (scanD d).great + 1, (scanD d).occ, 0⟩) := rfl
    obtain ⟨rd, hrd⟩ : ∃ rd, scanD d = rd := ⟨_, rfl⟩
    rw [hrd] at HS HT hgr hrl ⊢
    by_cases h5 : rd.great = 4294967295
    · have e5 : ((rd.great : Int) == 4294967295) = true := by rw [h5]; rfl
      rw [if_pos h5]
      simp only [show ¬ (5 : Int) = 0 by decide, if_false]
      go_enter Tryz.func74, Tryz.ntmps74
      go_wp2_with fail
      refine HS.out.mono ?_
      rintro e w2 ⟨hb, v, rfl, ho⟩
      have HB := Lib.hid hb
      clear hb ho
      go_wp2
      refine bodyPost_ret (results_tmp3 rfl _ _ _) rfl ?_
      exact ⟨HB.out, rfl⟩
    · have e5 : ((rd.great : Int) == 4294967295) = false := by rw [beq_eq_false_iff_ne]; omega
      rw [if_neg h5]
      simp only [if_true]
      go_enter Tryz.func74, Tryz.ntmps74
      go_wp2_with fail
      refine HS.out.mono ?_
      rintro e w2 ⟨hb, v, rfl, ho⟩
      obtain ⟨vA, vc, rfl⟩ := row_slice ho
      have HF : Hid (∀ W, W = (w2.alloc (.cells #[.pointer (some ⟨b, 0, none⟩), .int .i64 ((rd.great : Int) + 1), .int .i64 (rd.recs.length : Int), .int .i64 (rd.occ : Int), .int .i64 0] 201)).alloc (.cells #[.pointer (some ⟨w2.heap.size, 0, none⟩)] 203) →
          Below w.heap.size w W ∧ LogAt W (w2.heap.size + 1) w2.heap.size b (openT d) ∧ w.heap.size ≤ w2.heap.size + 1 ∧ w.heap.size ≤ w2.heap.size ∧ W.ownsRow w.heap.size 9 1 (.slice vA rd.recs.length vc) rd.recs.length (strs rd.recs)) := by
        rintro W rfl
        refine ⟨(hb.alloc hb.size _).alloc (by have := hb.size; simp; omega) _, ⟨?_, ?_⟩, by have := hb.size; omega, hb.size, (ho.alloc _).alloc _⟩
        · have := heap_alloc_new (w2.alloc (.cells #[.pointer (some ⟨b, 0, none⟩), .int .i64 ((rd.great : Int) + 1), .int .i64 (rd.recs.length : Int), .int .i64 (rd.occ : Int), .int .i64 0] 201)) (.cells #[.pointer (some ⟨w2.heap.size, 0, none⟩)] 203)
          simpa using this
        · rw [HT.out, Below.heap_alloc _ _ _ (by simp)]
          exact heap_alloc_new _ _
      clear hb ho
      go_wp2
      refine bodyPost_ret (results_tmp3 rfl _ _ _) rfl ?_
      obtain ⟨f1, f2, f3, f4, f5⟩ := HF.out _ rfl
      exact ⟨f1, _, _, _, rfl, f2, f3, f4, f5⟩
end Go.Proofs.YtjanddnlhaionaaGreatDoor.L6
