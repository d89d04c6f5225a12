/-
  Contracts of Open and of the tape's methods but Append. No condition. Contracts of parts and of the iterator that it returns. No condition. Contract of add. No condition. A region that draws its order within a round, walked by the plain laws. Condition: none of its operations defers.
-/
import Derived.Test.YtjanddnlhaionaaGreatDoorL6x3
import Derived.OrdersIn
import Derived.Deep.RegionHeld
set_option maxRecDepth 100000
namespace Go.Proofs.YtjanddnlhaionaaGreatDoor.L6
open Go.RowKit Go.Shelf

theorem LogAt.keep {w w' : World} {bt bl b : Nat} {t : T} (h : LogAt w bt bl b t) (h1 : w'.heap[bt]? = w.heap[bt]?) (h2 : w'.heap[bl]? = w.heap[bl]?) : LogAt w' bt bl b t := ⟨by rw [h1]; exact h.rt, by rw [h2]; exact h.rl⟩
theorem LogAt.lt {w : World} {bt bl b : Nat} {t : T} (h : LogAt w bt bl b t) : bt < w.heap.size ∧ bl < w.heap.size := ⟨(Array.getElem?_eq_some_iff.1 h.rt).1, (Array.getElem?_eq_some_iff.1 h.rl).1⟩
theorem LogAt.below {w w' : World} {bt bl b : Nat} {t : T} (h : LogAt w bt bl b t) (hb : Below w.heap.size w w') : LogAt w' bt bl b t := h.keep (hb.block _ h.lt.1) (hb.block _ h.lt.2)
theorem LogAt.turn {w w' : World} {F : Nat → Prop} {bt bl b : Nat} {t : T} (h : LogAt w bt bl b t) (ht : Turn F w w') (h1 : ¬ F bt) (h2 : ¬ F bl) : LogAt w' bt bl b t := h.keep (ht.block _ h.lt.1 h1) (ht.block _ h.lt.2 h2)
theorem LogAt.c {w : World} {bt bl b : Nat} {t : T} (h : LogAt w bt bl b t) : w.cell? ⟨bt, 0, none⟩ = some (.pointer (some ⟨bl, 0, none⟩)) ∧ w.cell? ⟨bl, 0, none⟩ = some (.pointer (some ⟨b, 0, none⟩)) ∧ w.cell? ⟨bl, 1, none⟩ = some (.int .i64 (t.life : Int)) ∧ w.cell? ⟨bl, 2, none⟩ = some (.int .i64 (t.count : Int)) ∧ w.cell? ⟨bl, 3, none⟩ = some (.int .i64 (t.pos : Int)) ∧ w.cell? ⟨bl, 4, none⟩ = some (.int .i64 t.err) ∧ (∀ j, w.frozen? ⟨bl, j, none⟩ = false) :=
  ⟨cell_row h.rt rfl, cell_row h.rl rfl, cell_row h.rl rfl, cell_row h.rl rfl, cell_row h.rl rfl, cell_row h.rl rfl, fun j => frozen_of_row w bl j _ _ h.rl⟩
theorem LogAt.ne {w : World} {bt bl b : Nat} {t : T} (h : LogAt w bt bl b t) : bt ≠ bl := ty_ne h.rt h.rl (by decide)
theorem LogAt.set {w : World} {bt bl b : Nat} {t t' : T} (h : LogAt w bt bl b t) (j : Nat) (u : Value) (hu : (logRow b t).setIfInBounds j u = logRow b t') : LogAt (w.setCell ⟨bl, j, none⟩ u) bt bl b t' :=
  ⟨by rw [Below.heap_setCell _ _ _ _ h.ne]; exact h.rt, by rw [setCell_eq_setRow w bl j _ _ _ u h.rl, hu]; exact setRow_heap w bl _ _ _ _ h.rl⟩

theorem exists43 {w : World} {bt bl b : Nat} {t : T} (h : LogAt w bt bl b t) : Calls Tryz.prog 134 #[.pointer (some ⟨bt, 0, none⟩)] w fun e w' => e = .returned (.bool true) ∧ w = w' := by
  have c := h.c.1
  clear h
  go_enter Tryz.func134, Tryz.ntmps134
  go_wp2
  go_ret
  exact ⟨rfl, rfl⟩
def TNot (p : Value) (w : World) : Prop := Calls Tryz.prog 134 #[p] w fun e w' => e = .returned (.bool false) ∧ w = w'
theorem len25 {w : World} {bt bl b : Nat} {t : T} (h : LogAt w bt bl b t) : Calls Tryz.prog 85 #[.pointer (some ⟨bt, 0, none⟩)] w fun e w' => e = .returned (.int .i64 (t.count : Int)) ∧ w = w' := by
  have HE := Lib.hid (exists43 h)
  obtain ⟨c0, -, c1, c2, c3, c4, -⟩ := h.c
  clear h
  go_enter Tryz.func85, Tryz.ntmps85
  go_wp2_with (go_at_call 134; refine HE.out.mono ?_; rintro e w' ⟨rfl, rfl⟩)
  go_ret
  exact ⟨rfl, rfl⟩
structure OkT (d : D) (t : T) : Prop where
  c : t.count ≤ 1000000
  l : t.life ≤ 4294967295
  l0 : 0 < t.life
  p : t.pos ≤ d.S.length
theorem room49 {w : World} {F : Nat → Prop} {bt bl b : Nat} {t : T} {d : D} (h : LogAt w bt bl b t) (hp : PAt w F b d) (hok : OkT d t) : Calls Tryz.prog 135 #[.pointer (some ⟨bl, 0, none⟩)] w fun e w' => e = .returned (.int .i64 ((d.S.length - t.pos : Nat) : Int)) ∧ ∃ n, w' = w.drewN n := by
  obtain ⟨c0, cb, c1, c2, c3, c4, -⟩ := h.c
  have hn2 := hp.ok.n2
  have hpos := hok.p
  have HSZ := Lib.hid fun n => size25 (w := w.drewN n) (hp.below (below_drewN (Below.refl _ _) n))
  have hw : IntKind.i64.wrap ((d.S.length : Int) - (t.pos : Int)) = ((d.S.length - t.pos : Nat) : Int) := by rw [IntKind.wrap_i64]; omega
  clear h hp hok
  generalize d.S.length = n at *
  generalize (n - t.pos : Nat) = m at *
  go_enter Tryz.func135, Tryz.ntmps135
  go_wp2_with fail
  go_quiet ((go_at_call 172; exact quietS (HSZ.out _)))
  go_wp2
  go_ret
  exact ⟨by rw [← hw]; rfl, _, rfl⟩
/-- A drum and a tape over it. -/
structure TAt (w : World) (F : Nat → Prop) (bt bl b : Nat) (d : D) (t : T) : Prop where
  l : LogAt w bt bl b t
  p : PAt w F b d
  ok : OkT d t
  n1 : ¬ F bt
  n2 : ¬ F bl
/-- What settling a tape may turn. -/
def FL (F : Nat → Prop) (bl k : Nat) : Prop := F k ∨ k = bl
theorem flush44 {w : World} {F : Nat → Prop} {bt bl b : Nat} {t : T} {d : D} (h : TAt w F bt bl b d t) (hw : d.W.length ≤ 1000000) :
    Calls Tryz.prog 171 #[.pointer (some ⟨bl, 0, none⟩)] w fun e w' => e = .returned (.int .i64 (flushE t d)) ∧ TAt w' F bt bl b (flushD t d) (flushT t d) ∧ Turn (FL F bl) w w' := by
  obtain ⟨-, cb, -, -, -, c4, cf⟩ := h.l.c
  have hcf := cf 4
  have HH := Lib.hid h
  have HS := Lib.hid (settle21 h.p hw)
  clear h cf
  obtain ⟨er, her⟩ : ∃ er, t.err = er := ⟨_, rfl⟩
  have HER := Lib.hid her
  rw [her] at c4
  by_cases h0 : er = 0
  · have e0 : (er == (0 : Int)) = true := by rw [h0]; rfl
    have HF : Hid (flushE t d = settleE d ∧ flushD t d = settleD d) := by unfold Hid flushE flushD; rw [HER.out, if_pos h0, if_pos h0]; exact ⟨rfl, rfl⟩
    rw [HF.out.1, HF.out.2]
    have HFT : Hid (flushT t d = { t with err := settleE d }) := by unfold Hid flushT; rw [HF.out.1]
    rw [HFT.out]
    clear her
    go_enter Tryz.func171, Tryz.ntmps171
    go_wp2_with fail
    refine HS.out.mono ?_
    rintro e w2 ⟨rfl, hp2, ht2⟩
    have hl2 := HH.out.l.turn ht2 HH.out.n1 HH.out.n2
    obtain ⟨-, -, -, -, -, d4, df⟩ := hl2.c
    have hdf := df 4
    have HL3 := Lib.hid (hl2.set (t' := { t with err := settleE d }) 4 (.int .i64 (settleE d)) rfl)
    have HP3 : Hid (PAt (w2.setCell ⟨bl, 4, none⟩ (.int .i64 (settleE d))) F b (settleD d) ∧ Turn (FL F bl) w (w2.setCell ⟨bl, 4, none⟩ (.int .i64 (settleE d)))) := by
      refine ⟨hp2.keep (G := fun k => k = bl) ((Turn.refl _ _).setCell _ _ (.inl rfl)) (fun k hk e => HH.out.n2 (e ▸ hk)), ((ht2.mono (fun i hi => .inl hi)).setCell _ _ (.inl (.inr rfl)))⟩
    clear hl2 df ht2 hp2
    go_wp2
    go_ret
    refine ⟨rfl, ⟨HL3.out, HP3.out.1, ⟨HH.out.ok.c, HH.out.ok.l, HH.out.ok.l0, by rw [settle_len]; exact HH.out.ok.p⟩, HH.out.n1, HH.out.n2⟩, HP3.out.2⟩
  · have e0 : (er == (0 : Int)) = false := by rw [beq_eq_false_iff_ne]; exact h0
    have HF : Hid (flushE t d = er ∧ flushD t d = d) := by unfold Hid flushE flushD; rw [HER.out, if_neg h0, if_neg h0]; exact ⟨rfl, rfl⟩
    rw [HF.out.1, HF.out.2]
    have HFT : Hid (flushT t d = t) := by unfold Hid flushT; rw [HF.out.1, ← HER.out]
    rw [HFT.out]
    clear her
    go_enter Tryz.func171, Tryz.ntmps171
    go_wp2
    go_ret
    exact ⟨rfl, HH.out, Turn.refl _ _⟩
theorem settle20 {w : World} {F : Nat → Prop} {bt bl b : Nat} {t : T} {d : D} (h : TAt w F bt bl b d t) (hw : d.W.length ≤ 1000000) :
    Calls Tryz.prog 133 #[.pointer (some ⟨bt, 0, none⟩)] w fun e w' => e = .returned (.int .i64 (flushE t d)) ∧ TAt w' F bt bl b (flushD t d) (flushT t d) ∧ Turn (FL F bl) w w' := by
  have HE := Lib.hid (exists43 h.l)
  have HF := Lib.hid (flush44 h hw)
  obtain ⟨c0, -, -, -, -, -, -⟩ := h.l.c
  clear h
  go_enter Tryz.func133, Tryz.ntmps133
  go_wp2_with (first | (go_at_call 134; refine HE.out.mono ?_; rintro e w' ⟨rfl, rfl⟩) | (go_at_call 171; refine HF.out.mono ?_; rintro e w' ⟨rfl, h1, h2⟩; have H1 := Lib.hid h1; have H2 := Lib.hid h2; clear h1 h2))
  go_ret
  exact ⟨rfl, H1.out, H2.out⟩

set_option maxHeartbeats 1000000 in
theorem open19 {F : Nat → Prop} {b : Nat} {d : D} {w : World} (h : PAt w F b d) (hw : d.W.length ≤ 1000000) :
    Calls Tryz.prog 74 #[.pointer (some ⟨b, 0, none⟩)] w fun e w' => Below w.heap.size w w' ∧
      if openE d = 0 then ∃ bt bl v, e = .returned (.tuple #[.pointer (some ⟨bt, 0, none⟩), v, .int .i64 0]) ∧ LogAt w' bt bl b (openT d) ∧ w.heap.size ≤ bt ∧ w.heap.size ≤ bl ∧ w'.ownsRow w.heap.size 9 1 v (scanD d).recs.length (strs (scanD d).recs)
      else e = .returned (.tuple #[.pointer none, .slice none 0 0, .int .i64 (openE d)]) := by
  have HS := Lib.hid (scanP h hw)
  have hgr := great_lt (shown d)
  have hrl := (scanL_ok (shown d)).1
  have hn2 := h.ok.n2
  have hsl : (shown d).length = d.S.length := by simp [shown]
  change (scanD d).great < _ at hgr
  change (scanD d).recs.length ≤ _ at hrl
  rw [hsl] at hrl
  clear h hsl
  unfold openE
  cases hg : d.gone with
  | true =>
    rw [hg] at HS
    simp only [if_true] at HS
    rw [if_pos (rfl : true = true)]
    simp only [show ¬ (9 : Int) = 0 by decide, if_false]
    go_enter Tryz.func74, Tryz.ntmps74
    go_wp2_with fail
    refine HS.out.mono ?_
    rintro e w2 ⟨hb, rfl⟩
    have HB := Lib.hid hb
    clear hb
    go_wp2
    refine bodyPost_ret (results_tmp3 rfl _ _ _) rfl ?_
    exact ⟨HB.out, rfl⟩
  | false =>
    rw [hg] at HS
    simp only [Bool.false_eq_true, if_false] at HS ⊢
    have HT : Hid (openT d = ⟨(scanD d).recs.length, (scanD d).great + 1, (scanD d).occ, 0⟩) := rfl
    obtain ⟨rd, hrd⟩ : ∃ rd, scanD d = rd := ⟨_, rfl⟩
    rw [hrd] at HS HT hgr hrl ⊢
    by_cases h5 : rd.great = 4294967295
    · have e5 : ((rd.great : Int) == 4294967295) = true := by rw [h5]; rfl
      rw [if_pos h5]
      simp only [show ¬ (5 : Int) = 0 by decide, if_false]
      go_enter Tryz.func74, Tryz.ntmps74
      go_wp2_with fail
      refine HS.out.mono ?_
      rintro e w2 ⟨hb, v, rfl, ho⟩
      have HB := Lib.hid hb
      clear hb ho
      go_wp2
      refine bodyPost_ret (results_tmp3 rfl _ _ _) rfl ?_
      exact ⟨HB.out, rfl⟩
    · have e5 : ((rd.great : Int) == 4294967295) = false := by rw [beq_eq_false_iff_ne]; omega
      rw [if_neg h5]
      simp only [if_true]
      go_enter Tryz.func74, Tryz.ntmps74
      go_wp2_with fail
      refine HS.out.mono ?_
      rintro e w2 ⟨hb, v, rfl, ho⟩
      obtain ⟨vA, vc, rfl⟩ := row_slice ho
      have HF : Hid (∀ W, W = (w2.alloc (.cells #[.pointer (some ⟨b, 0, none⟩), .int .i64 ((rd.great : Int) + 1), .int .i64 (rd.recs.length : Int), .int .i64 (rd.occ : Int), .int .i64 0] 201)).alloc (.cells #[.pointer (some ⟨w2.heap.size, 0, none⟩)] 203) →
          Below w.heap.size w W ∧ LogAt W (w2.heap.size + 1) w2.heap.size b (openT d) ∧ w.heap.size ≤ w2.heap.size + 1 ∧ w.heap.size ≤ w2.heap.size ∧ W.ownsRow w.heap.size 9 1 (.slice vA rd.recs.length vc) rd.recs.length (strs rd.recs)) := by
        rintro W rfl
        refine ⟨(hb.alloc hb.size _).alloc (by have := hb.size; simp; omega) _, ⟨?_, ?_⟩, by have := hb.size; omega, hb.size, (ho.alloc _).alloc _⟩
        · have := heap_alloc_new (w2.alloc (.cells #[.pointer (some ⟨b, 0, none⟩), .int .i64 ((rd.great : Int) + 1), .int .i64 (rd.recs.length : Int), .int .i64 (rd.occ : Int), .int .i64 0] 201)) (.cells #[.pointer (some ⟨w2.heap.size, 0, none⟩)] 203)
          simpa using this
        · rw [HT.out, Below.heap_alloc _ _ _ (by simp)]
          exact heap_alloc_new _ _
      clear hb ho
      go_wp2
      refine bodyPost_ret (results_tmp3 rfl _ _ _) rfl ?_
      obtain ⟨f1, f2, f3, f4, f5⟩ := HF.out _ rfl
      exact ⟨f1, _, _, _, rfl, f2, f3, f4, f5⟩
end Go.Proofs.YtjanddnlhaionaaGreatDoor.L6
namespace Go.Proofs.YtjanddnlhaionaaGreatDoor.L6
open Go.RowKit Go.Shelf
attribute [local go_sem] Oper.semAt_some

set_option maxHeartbeats 400000 in
theorem parts65 (l r : Int) (s : ByteArray) (w : World) :
    Calls Tryz.prog 198 #[.int .i64 l, .int .i64 r, .string s] w fun e w' => e = .returned (.func (.func 212) #[] #[.pointer (some ⟨w.heap.size + 2, 0, none⟩), .pointer (some ⟨w.heap.size, 0, none⟩), .pointer (some ⟨w.heap.size + 1, 0, none⟩)]) ∧
      w' = ((w.alloc (.cells #[.int .i64 l] 3)).alloc (.cells #[.int .i64 r] 3)).alloc (.cells #[.string s] 9) := by
  go_enter Tryz.func198, Tryz.ntmps198
  go_wp2
  go_ret
  exact ⟨rfl, rfl⟩

def encP (life record : Nat) (s : ByteArray) (x : Fin (needN s.size)) : Array Value := #[.agg (secV (partOf life record s x.1))]
def GP (n k : Nat) : Prop := ¬ (n ≤ k ∧ k ≤ n + 2)
structure Boxes (n life record : Nat) (s : ByteArray) (W : World) : Prop where
  b3 : Boxed W n 3 (.int .i64 (life : Int))
  b4 : Boxed W (n + 1) 3 (.int .i64 (record : Int))
  b5 : Boxed W (n + 2) 9 (.string s)
theorem Boxes.turn {n life record : Nat} {s : ByteArray} {W W' : World} (h : Boxes n life record s W) (ht : Turn (GP n) W W') : Boxes n life record s W' :=
  ⟨(ht.block n (Array.getElem?_eq_some_iff.1 h.b3).1 (fun hg => hg ⟨by omega, by omega⟩)).trans h.b3, (ht.block (n + 1) (Array.getElem?_eq_some_iff.1 h.b4).1 (fun hg => hg ⟨by omega, by omega⟩)).trans h.b4, (ht.block (n + 2) (Array.getElem?_eq_some_iff.1 h.b5).1 (fun hg => hg ⟨by omega, by omega⟩)).trans h.b5⟩
theorem Boxes.below {n life record : Nat} {s : ByteArray} {W W' : World} (h : Boxes n life record s W) (hb : Below W.heap.size W W') : Boxes n life record s W' := h.turn (Turn.of_below hb)

theorem need_in (n i : Nat) (h : i < needN n) : 51 * i ≤ n ∧ min ((i + 1) * 51) n ≤ n ∧ 51 * i ≤ min ((i + 1) * 51) n := by
  unfold needN at h
  split at h
  · have : i = 0 := by omega
    subst this
    omega
  · omega
theorem part_data (s : ByteArray) (i : Nat) : mkB ((s.data.toList.drop (51 * i)).take 51) = s.extract (51 * i) (min ((i + 1) * 51) s.size) := by
  refine (eq_mkB ?_).symm
  rw [ext_list, List.drop_take]
  by_cases hl : (i + 1) * 51 ≤ s.size
  · rw [Nat.min_eq_left hl, show (i + 1) * 51 - 51 * i = 51 by omega]
  · rw [Nat.min_eq_right (by omega), List.take_of_length_le (by rw [List.length_drop, len_list]; omega), List.take_of_length_le (by rw [List.length_drop, len_list]; omega)]

set_option maxHeartbeats 2000000 in
theorem iter75_in (m : Nat) (hm : 1 ≤ m) (lp n life record : Nat) (s : ByteArray) (hs : s.size ≤ 1000000000)
    (J Jx : List (Fin (needN s.size)) → World → Prop) (W : World) (hJ : AbidesFrom W.heap.size J)
    (hY : ∀ pre x W1, J pre W1 → pre.length < needN s.size → YieldAt Fence.wide (m - 1) Tryz.prog lp (encP life record s x) W1 fun e W' =>
      (e = .returned (.bool true) ∧ J (pre ++ [x]) W' ∧ Turn (GP n) W1 W') ∨ (e = .returned (.bool false) ∧ Jx (pre ++ [x]) W'))
    (hB : Boxes n life record s W) (h0 : J [] W) :
    CallsIn Fence.wide m Tryz.prog 212 #[.func (.yield lp) #[] #[], .pointer (some ⟨n + 2, 0, none⟩), .pointer (some ⟨n, 0, none⟩), .pointer (some ⟨n + 1, 0, none⟩)] W fun e W' => (∃ v, e = .returned v) ∧
      ((∃ ys, ys = List.finRange (needN s.size) ∧ J ys W') ∨ (∃ pre, pre <+: List.finRange (needN s.size) ∧ Jx pre W')) := by
  have HY := Lib.hid hY
  have HJ := Lib.hid hJ
  have HST : Hid (Boxes n life record s W ∧ J [] W) := ⟨hB, h0⟩
  have c5 := hB.b5.cell
  have HN := Lib.hid (need17n s.size (by omega))
  clear hY hJ hB h0
  refine callsIn_of_wp Tryz.func212 rfl trivial ?_ rfl
  simp only [Tryz.ntmps212, List.size_toArray, List.length_cons, List.length_nil, Nat.reduceAdd, Nat.reduceSub, Array.replicate_succ, Array.replicate_zero, List.push_toArray, List.append_toArray, List.nil_append, List.cons_append]
  obtain ⟨nd, hnd⟩ : ∃ nd, needN s.size = nd := ⟨_, rfl⟩
  rw [hnd] at HN
  gi_wp2_with (refine ⟨trivial, ?_⟩; gi_at_call 197; refine (callsIn_wide.2 (HN.out _)).mono ?_; rintro e w' ⟨rfl, rfl⟩)
  have HND := Lib.hid hnd
  clear c5 HN
  gi_loopw [13] (fun s13 wr => ∃ (i : Nat), s13 = .int .i64 (i : Int) ∧ i ≤ nd ∧ Hid (Boxes n life record s wr ∧ J ((List.finRange (needN s.size)).take i) wr)) (fun s13 _ => nd - (intOf s13).toNat)
  case atStart => exact ⟨0, rfl, Nat.zero_le _, HST.out.1, by rw [List.take_zero]; exact HST.out.2⟩
  case round =>
    obtain ⟨i, rfl, hi, HI⟩ := hrel
    clear HST
    by_cases hlt : i < nd
    · have hlti : (i : Int) < (nd : Int) := by omega
      obtain ⟨q1, q2, q3⟩ := need_in s.size i (by rw [hnd]; exact hlt)
      have hPD := part_data s i
      obtain ⟨en, hen⟩ : ∃ en, min ((i + 1) * 51) s.size = en := ⟨_, rfl⟩
      rw [hen] at q2 q3 hPD
      have hen2 : (if (s.size : Int) < ((i : Int) + 1) * 51 then (s.size : Int) else ((i : Int) + 1) * 51) = (en : Int) := by split <;> omega
      have HPD := Lib.hid hPD
      have c5 := HI.out.1.b5.cell
      have c3 := HI.out.1.b3.cell
      have c4 := HI.out.1.b4.cell
      clear hPD hnd
      gi_upto_region 5 with fail
      have hsl : ∀ W, (Instr.slice 9 (.string s) (some (.int .i64 ((i : Int) * 51))) (some (.int .i64 (en : Int))) none).run Tryz.prog W = .ok (.string (s.extract (51 * i) en)) W := fun W => slice_str s (51 * i) en q3 q2 _ _ (by omega) rfl W
      have hndl : nd ≤ 1000000001 := by rw [← HND.out]; unfold needN; split <;> omega
      have w1 : IntKind.i64.wrap ((nd : Int) - 1) = (nd : Int) - 1 := by rw [IntKind.wrap_i64]; omega
      have w2 : IntKind.i64.wrap ((i : Int) * 51) = (i : Int) * 51 := by rw [IntKind.wrap_i64]; omega
      have hlast : ((i : Int) == (nd : Int) - 1) = decide (i + 1 = nd) := by
        by_cases hq : i + 1 = nd
        · rw [decide_eq_true hq, beq_iff_eq]; omega
        · rw [decide_eq_false hq, beq_eq_false_iff_ne]; omega
      obtain ⟨la, hla⟩ : ∃ la, decide (i + 1 = nd) = la := ⟨_, rfl⟩
      rw [hla] at hlast
      have HX : Hid (secV (partOf life record s i) = #[.int .i64 (life : Int), .int .i64 (record : Int), .int .i64 (i : Int), .bool la, .string (s.extract (51 * i) en)]) := by
        unfold Hid secV partOf
        rw [HPD.out, HND.out, hla]
      obtain ⟨X, hX⟩ : ∃ X, secV (partOf life record s i) = X := ⟨_, rfl⟩
      have HXX := Lib.hid hX
      rw [hX] at HX
      clear hla hX hlti hen2 q1 q2 q3 hen
      have z := Tryz.z112
      have HA := HI.out.1.below (((Below.refl wr.heap.size wr).alloc (Nat.le_refl _) (.cells #[.int .i64 0, .int .i64 0, .int .i64 0, .bool false, .string ⟨#[]⟩] 289)).drew)
      have d5 := HA.b5.cell
      have d3 := HA.b3.cell
      have d4 := HA.b4.cell
      have g5 : (wr.alloc (.cells #[.int .i64 0, .int .i64 0, .int .i64 0, .bool false, .string ⟨#[]⟩] 289)).cell? ⟨n + 2, 0, none⟩ = _ := d5
      have g3 : (wr.alloc (.cells #[.int .i64 0, .int .i64 0, .int .i64 0, .bool false, .string ⟨#[]⟩] 289)).cell? ⟨n, 0, none⟩ = _ := d3
      have g4 : (wr.alloc (.cells #[.int .i64 0, .int .i64 0, .int .i64 0, .bool false, .string ⟨#[]⟩] 289)).cell? ⟨n + 1, 0, none⟩ = _ := d4
      clear HA
      gi_cut [8] from 22 (fun s8 wx => s8 = .pointer (some ⟨wr.heap.size, 0, none⟩) ∧ wx = (wr.alloc (.cells X 289)).drew)
      case first =>
        gi_region
        all_goals
          gi_wp2_with fail
          gi_meet
          case rel => exact ⟨rfl, by rw [HX.out]⟩
      case rest =>
        obtain ⟨rfl, rfl⟩ := hcut
        have hif : i < (List.finRange (needN s.size)).length := by rw [List.length_finRange, HND.out]; exact hlt
        have htk : (List.finRange (needN s.size)).take (i + 1) = (List.finRange (needN s.size)).take i ++ [⟨i, by rw [HND.out]; exact hlt⟩] := by rw [List.take_succ_eq_append_getElem hif]; simp
        have hlen : ((List.finRange (needN s.size)).take i).length < needN s.size := by rw [List.length_take, List.length_finRange, HND.out]; omega
        have hbw : Below wr.heap.size wr (wr.alloc (.cells X 289)).drew := ((Below.refl _ _).alloc (Nat.le_refl _) _).drew
        have hyy := HY.out ((List.finRange (needN s.size)).take i) ⟨i, by rw [HND.out]; exact hlt⟩ (wr.alloc (.cells X 289)).drew (HJ.out _ _ _ none HI.out.2 ⟨hbw.os, hbw.tape, hbw.output, hbw.size, fun k hk _ => hbw.block k hk⟩ (fun r e => by cases e)) hlen
        unfold encP at hyy
        rw [← htk] at hyy
        obtain ⟨fn, tmps, assign, body, hy, hR⟩ := hyy
        have HR := Lib.hid hR
        have HBO := Lib.hid (HI.out.1.below hbw)
        have hrow : (wr.alloc (.cells X 289)).drew.heap[wr.heap.size]? = some (.cells (secV (partOf life record s i)) 289 (0, 0)) := by rw [HXX.out]; exact heap_alloc_new _ _
        obtain ⟨b0, b1, b2, b3, b4⟩ := sec_cells hrow
        unfold secV partOf at hy
        unfold partOf at b0 b1 b2 b3 b4
        simp only at hy b0 b1 b2 b3 b4
        clear hR hlen htk hif hbw c3 c4 c5 d3 d4 d5 g3 g4 g5 z hsl w1 w2 hlast HX HXX HPD HI hrow
        generalize (wr.alloc (.cells X 289)).drew = w2 at HR HBO hy b0 b1 b2 b3 b4 ⊢
        generalize decide (i + 1 = needN s.size) = l2 at hy b3
        generalize mkB (((s.data.toList.drop (51 * i)).take 51)) = d2 at hy b4
        gi_wp2_with fail
        refine HR.out.mono ?_
        rintro ee W3 (⟨rfl, hJ3, hk3⟩ | ⟨rfl, hJx3⟩)
        · have HN : Hid (Boxes n life record s W3 ∧ J ((List.finRange (needN s.size)).take (i + 1)) W3) := ⟨HBO.out.turn hk3, hJ3⟩
          clear hJ3 hk3 HR hy HBO b0 b1 b2 b3 b4
          gi_wp2
          go_roundw
          case rel => exact ⟨i + 1, by go_num, by omega, HN⟩
          case measure => simp [intOf]; omega
        · have HE : Hid (Jx ((List.finRange (needN s.size)).take (i + 1)) W3) := hJx3
          clear hJx3 HR hy HBO b0 b1 b2 b3 b4
          gi_wp2
          refine bodyPost_ret (results_none rfl _ _ _) rfl ?_
          exact ⟨⟨_, rfl⟩, .inr ⟨_, List.take_prefix _ _, HE.out⟩⟩
    · clear hnd
      have hin : ¬ (i : Int) < (nd : Int) := by omega
      have HE : Hid (J (List.finRange (needN s.size)) wr) := by
        have := HI.out.2
        rw [List.take_of_length_le (by rw [List.length_finRange, HND.out]; omega)] at this
        exact this
      clear HI
      gi_wp2
      go_end0
      exact ⟨⟨_, rfl⟩, .inl HE.out⟩

theorem iter75 (m : Nat) (hm : 1 ≤ m) (n life record : Nat) (s : ByteArray) (hs : s.size ≤ 1000000000) (w : World) (hB : Boxes n life record s w) :
    SeqStopsK Fence.wide m Tryz.prog 212 #[.pointer (some ⟨n + 2, 0, none⟩), .pointer (some ⟨n, 0, none⟩), .pointer (some ⟨n + 1, 0, none⟩)] (encP life record s) (Turn (GP n)) (fun ys => ys = List.finRange (needN s.size)) (fun pre => pre <+: List.finRange (needN s.size)) (needN s.size) w := by
  intro lp J Jx W hb hJ _ hY h0
  exact iter75_in m hm lp n life record s hs J Jx W hJ hY (hB.below hb) h0
end Go.Proofs.YtjanddnlhaionaaGreatDoor.L6
namespace Go.Proofs.YtjanddnlhaionaaGreatDoor.L6
open Go.RowKit Go.Shelf
attribute [local go_sem] Oper.semAt_some

/-- The drum's blocks and nothing else. -/
theorem PAt.core {w : World} {F : Nat → Prop} {b : Nat} {d : D} (h : PAt w F b d) : ∃ G, PAt w G b d ∧ (∀ k, G k → F k) ∧ ∀ k, G k → ∃ cs t, w.heap[k]? = some (.cells cs t (0, 0)) ∧ (t = 120 ∨ t = 144 ∨ t = 146) := by
  obtain ⟨g, c, v, hi⟩ := h.is
  have hF : ∀ k, (k = b ∨ k = g ∨ v.ownBlock = some k) → F k := fun k hk => by
    rcases hk with rfl | rfl | hk
    · exact hi.fb
    · exact hi.f1
    · exact hi.f2 k hk
  refine ⟨fun k => k = b ∨ k = g ∨ v.ownBlock = some k, ⟨⟨g, c, v, hi.row, hi.o1, hi.o2, hi.n1, hi.n2, hi.n12, .inl rfl, .inr (.inl rfl), fun k hk => .inr (.inr hk)⟩, h.ok, fun k hk => h.lt k (hF k hk)⟩, hF, fun k hk => ?_⟩
  rcases hk with rfl | rfl | hk
  · exact ⟨_, _, hi.row, .inl rfl⟩
  · obtain ⟨cs, hc⟩ := row_ty hi.o1 rfl
    exact ⟨_, _, hc, .inr (.inl rfl)⟩
  · obtain ⟨cs, hc⟩ := row_ty hi.o2 hk
    exact ⟨_, _, hc, .inr (.inr rfl)⟩

def wrS (t : T) (s : ByteArray) (p : D × Int) (i : Nat) : D × Int := if p.2 = 0 then (writeD p.1 ((t.pos + i : Nat) : Int) (layB (partOf t.life (t.count + 1) s i)), writeE p.1 ((t.pos + i : Nat) : Int) (layB (partOf t.life (t.count + 1) s i))) else p
def wrF (t : T) (s : ByteArray) (d : D) (l : List (Fin (needN s.size))) : D × Int := l.foldl (fun p i => wrS t s p i.1) (d, 0)
theorem wrF_snoc (t : T) (s : ByteArray) (d : D) (l : List (Fin (needN s.size))) (x : Fin (needN s.size)) : wrF t s d (l ++ [x]) = wrS t s (wrF t s d l) x.1 := by unfold wrF; rw [List.foldl_append]; rfl
theorem wrF_take (t : T) (s : ByteArray) (d : D) : ∀ k, k ≤ needN s.size → wrF t s d ((List.finRange (needN s.size)).take k) = wrK t s d k
  | 0, _ => by simp [wrF, wrK]
  | k + 1, h => by
    have hk : k < (List.finRange (needN s.size)).length := by rw [List.length_finRange]; omega
    rw [List.take_succ_eq_append_getElem hk, wrF_snoc, wrF_take t s d k (by omega)]
    simp only [List.getElem_finRange, Fin.cast_mk]
    rfl
theorem wrF_all (t : T) (s : ByteArray) (d : D) : wrF t s d (List.finRange (needN s.size)) = wrK t s d (needN s.size) := by
  rw [← wrF_take t s d _ (Nat.le_refl _), List.take_of_length_le (by simp)]
theorem wrF_stuck (t : T) (s : ByteArray) (d : D) (l m : List (Fin (needN s.size))) (h : (wrF t s d l).2 ≠ 0) : wrF t s d (l ++ m) = wrF t s d l := by
  unfold wrF at *
  rw [List.foldl_append]
  generalize l.foldl (fun p i => wrS t s p i.1) (d, 0) = p at *
  induction m with
  | nil => rfl
  | cons a m ih => rw [List.foldl_cons]; unfold wrS; rw [if_neg h]; exact ih
theorem wrF_prefix (t : T) (s : ByteArray) (d : D) (l : List (Fin (needN s.size))) (hl : l <+: List.finRange (needN s.size)) (h : (wrF t s d l).2 ≠ 0) : wrK t s d (needN s.size) = wrF t s d l := by
  obtain ⟨m, hm⟩ := hl
  rw [← wrF_all, ← hm, wrF_stuck t s d l m h]
theorem wrF_len (t : T) (s : ByteArray) (d : D) (l : List (Fin (needN s.size))) : (wrF t s d l).1.S.length = d.S.length ∧ (wrF t s d l).1.W.length ≤ d.W.length + l.length := by
  rw [show l = l.reverse.reverse by simp]
  generalize l.reverse = m
  induction m with
  | nil => simp [wrF]
  | cons a m ih =>
    rw [List.reverse_cons, wrF_snoc, List.length_append]
    unfold wrS
    split
    · refine ⟨by rw [write_len]; exact ih.1, ?_⟩
      have := write_wlen (wrF t s d m.reverse).1 ((t.pos + a.1 : Nat) : Int) (layB (partOf t.life (t.count + 1) s a.1))
      have h2 := ih.2
      exact Nat.le_trans this (by have e : [a].length = 1 := rfl; rw [e]; omega)
    · exact ⟨ih.1, Nat.le_trans ih.2 (by omega)⟩

/-- The drum within a round: its blocks hold cells of its own types, and are the drum's old ones or new. -/
def PR (w : World) (F : Nat → Prop) (b : Nat) (d : D) (W : World) : Prop := ∃ G, PAt W G b d ∧ (∀ k, G k → F k ∨ w.heap.size ≤ k) ∧ ∀ k, G k → ∃ cs t, W.heap[k]? = some (.cells cs t (0, 0)) ∧ (t = 120 ∨ t = 144 ∨ t = 146)
theorem PR.of {w W : World} {F G : Nat → Prop} {b : Nat} {d : D} (h : PAt W G b d) (hG : ∀ k, G k → F k ∨ w.heap.size ≤ k) : PR w F b d W := by
  obtain ⟨H, h1, h2, h3⟩ := h.core
  exact ⟨H, h1, fun k hk => hG k (h2 k hk), h3⟩
theorem PR.keep {w W W' : World} {F : Nat → Prop} {b : Nat} {d : D} (h : PR w F b d W) (hs : W.heap.size ≤ W'.heap.size) (hk : ∀ (k : Nat) (cs : Array Value) (t : TypeId), W.heap[k]? = some (Obj.cells cs t (0, 0)) → (t = 120 ∨ t = 144 ∨ t = 146) → W'.heap[k]? = W.heap[k]?) : PR w F b d W' := by
  obtain ⟨G, h1, h2, h3⟩ := h
  have hk' : ∀ k, G k → W'.heap[k]? = W.heap[k]? := fun k hg => by obtain ⟨cs, t, hc, ht⟩ := h3 k hg; exact hk k cs t hc ht
  obtain ⟨g, c, v, hi⟩ := h1.is
  exact ⟨G, ⟨⟨g, c, v, hi.keep hk'⟩, h1.ok, fun k hg => Nat.lt_of_lt_of_le (h1.lt k hg) hs⟩, h2, fun k hg => by rw [hk' k hg]; exact h3 k hg⟩
theorem pr_own {β : Type} (w : World) (F : Nat → Prop) (b : Nat) (f : β → D) : Own (fun s W => PR w F b (f s) W) := by
  intro s X Y row h hg hr
  refine h.keep hg.size fun k cs t hc _ => hg.block k (Array.getElem?_eq_some_iff.1 hc).1 (fun e => ?_)
  obtain ⟨o, ho, hcc⟩ := hr k e.symm
  rw [hc] at ho
  cases ho
  cases hcc
theorem log_own {β : Type} (bt bl b : Nat) (f : β → T) : Own (fun s W => LogAt W bt bl b (f s)) := by
  intro s X Y row h hg hr
  refine h.keep (hg.block bt h.lt.1 (fun e => ?_)) (hg.block bl h.lt.2 (fun e => ?_))
  · obtain ⟨o, ho, hcc⟩ := hr bt e.symm
    rw [h.rt] at ho; cases ho; cases hcc
  · obtain ⟨o, ho, hcc⟩ := hr bl e.symm
    rw [h.rl] at ho; cases ho; cases hcc
theorem ownFrom_turn {β : Type} {F : Nat → Prop} {w : World} {B : Nat} (h : w.heap.size ≤ B) : OwnFrom B (fun (_ : β) W => Turn F w W) := by
  intro s X Y row ht hg hr
  exact ht.trans (G := fun k => row = some k) ⟨hg.os, hg.tape, hg.output, hg.size, fun k hk hn => hg.block k hk (fun e => hn e.symm)⟩ (fun i hi => .inr (by have := (hr i hi).1; omega))

/-- Between two rounds of add. -/
def AInv (w : World) (F : Nat → Prop) (bt bl b : Nat) (d : D) (t : T) (s : ByteArray) (pre : List (Fin (needN s.size))) (W : World) : Prop :=
  PR w F b (wrF t s d pre).1 W ∧ LogAt W bt bl b t ∧ Boxed W w.heap.size 199 (.pointer (some ⟨bl, 0, none⟩)) ∧ Boxed W (w.heap.size + 1) 30 (.int .i64 0) ∧ Boxes (w.heap.size + 2) t.life (t.count + 1) s W ∧ Turn (FL F bl) w W ∧ (wrF t s d pre).2 = 0
def AInvX (w : World) (F : Nat → Prop) (bt bl b : Nat) (d : D) (t : T) (s : ByteArray) (c : Code) (pre : List (Fin (needN s.size))) (W : World) : Prop :=
  PR w F b (wrF t s d pre).1 W ∧ LogAt W bt bl b { t with err := (wrF t s d pre).2 } ∧ Boxed W (w.heap.size + 1) 30 (.int .i64 (wrF t s d pre).2) ∧ Turn (FL F bl) w W ∧ c = .ret ∧ (wrF t s d pre).2 ≠ 0
theorem boxes_own {β : Type} (n life record : Nat) (s : ByteArray) : Own (fun (_ : β) W => Boxes n life record s W) := fun x X Y row h hg hr =>
  ⟨boxed_own n 3 (fun _ => .int .i64 (life : Int)) x X Y row h.b3 hg hr, boxed_own (n + 1) 3 (fun _ => .int .i64 (record : Int)) x X Y row h.b4 hg hr, boxed_own (n + 2) 9 (fun _ => .string s) x X Y row h.b5 hg hr⟩
theorem aInv_own (w : World) (F : Nat → Prop) (bt bl b : Nat) (d : D) (t : T) (s : ByteArray) (lo : Nat) (h : w.heap.size ≤ lo) : OwnFrom lo (AInv w F bt bl b d t s) :=
  OwnFrom.and (Own.from (pr_own w F b (fun pre => (wrF t s d pre).1)) _) (OwnFrom.and (Own.from (log_own bt bl b (fun _ => t)) _) (OwnFrom.and (Own.from (boxed_own _ _ _) _) (OwnFrom.and (Own.from (boxed_own _ _ _) _) (OwnFrom.and (Own.from (boxes_own _ _ _ _) _) (OwnFrom.and (ownFrom_turn h) (ownFrom_pure _ _))))))
theorem aInvX_own (w : World) (F : Nat → Prop) (bt bl b : Nat) (d : D) (t : T) (s : ByteArray) (lo : Nat) (h : w.heap.size ≤ lo) (c : Code) : OwnFrom lo (AInvX w F bt bl b d t s c) :=
  OwnFrom.and (Own.from (pr_own w F b (fun pre => (wrF t s d pre).1)) _) (OwnFrom.and (Own.from (log_own bt bl b (fun pre => { t with err := (wrF t s d pre).2 })) _) (OwnFrom.and (Own.from (boxed_own _ _ (fun pre => .int .i64 (wrF t s d pre).2)) _) (OwnFrom.and (ownFrom_turn h) (ownFrom_pure _ _))))
end Go.Proofs.YtjanddnlhaionaaGreatDoor.L6
namespace Go.Proofs.YtjanddnlhaionaaGreatDoor.L6
open Go.RowKit

def defers? (o : Oper) : Bool := match o.op with | .defer _ => true | _ => false
theorem noDefer {ops : Array Oper} (h : ops.all (fun o => !defers? o) = true) (j : Nat) (o : Oper) (ho : ops[j]? = some o) (c : _) : o.op ≠ .defer c := by
  intro e
  have hm : o ∈ ops := Array.mem_of_getElem? ho
  rw [Array.all_eq_true_iff_forall_mem] at h
  have := h o hm
  unfold defers? at this
  rw [e] at this
  simp at this
section
variable {P : Program} {n l : Nat} {ops : Array Oper} {Q : Exit → Act → World → Prop} {md : Region.Mode}
theorem uponIn_of_upon {o : Oper} {a : Act} {K : Act → World → Prop} (r : Result Next) (h : o.upon P a K Q r) : o.uponIn (Fence.wide.inRound l) n P a K Q r := by
  cases r with
  | ok x w' =>
    cases x with
    | value v => exact h
    | skip => exact h
    | defer d => exact h
    | enter f args => exact ⟨(fun hd => by cases hd), CallsIn.inRound l (callsIn_wide.2 h)⟩
    | row row args => exact ⟨(fun hd => by cases hd), fun c cs _ => let ⟨v, w', r, s⟩ := h c cs; ⟨v, w', r, stepsIn_wide.2 s⟩⟩
    | round _ _ _ _ _ => exact h.elim
    | _ => exact h.elim
  | halt x w' => cases x <;> exact h
theorem wpOpIn_of_wpOp (hl : ¬ LetsOut Q) {i : Nat} {K K' : Act → World → Prop} {a : Act} {w : World} (hd : ∀ (j : Nat) (o : Oper), ops[j]? = some o → ∀ c, o.op ≠ .defer c) (hK : ∀ a w, K a w → K' a w) (h : wpOp P ops Q i K a w) : wpOpIn (Fence.wide.inRound l) n P ops Q i K' a w := by
  refine wpOpIn_mono hK ?_
  unfold wpOp at h
  unfold wpOpIn
  cases ho : ops[i]? with
  | none => rw [ho] at h; exact h
  | some o =>
    rw [ho] at h
    simp only at h ⊢
    split
    · rename_i hw
      rw [if_pos hw] at h
      refine ⟨fun _ _ => trivial, ?_⟩
      rw [Oper.semAt_eq _ _ _ (hd i o ho)]
      rcases h with h | ⟨_, h⟩
      · exact uponIn_of_upon _ h
      · exact absurd h hl
    · rename_i hw
      rw [if_neg hw] at h
      exact ⟨fun _ _ => trivial, h⟩
theorem wpAnyIn_of_wpAny (hl : ¬ LetsOut Q) (hd : ∀ (j : Nat) (o : Oper), ops[j]? = some o → ∀ c, o.op ≠ .defer c) : ∀ (fuel : Nat) (listed : Array Bool) (a : Act) (w : World), wpAny P md ops Q fuel listed a w → wpAnyIn (Fence.wide.inRound l) n P md ops Q fuel listed a w
  | 0, _, _, _, h => h
  | fuel + 1, _, _, _, h => ⟨h.1, fun i hi => wpOpIn_of_wpOp hl hd (fun a w => wpAnyIn_of_wpAny hl hd fuel _ a w) (h.2 i hi)⟩
theorem region_in_round {S : World → Prop} {id : Nat} {a : Act} {w : World} (hm : P.follows .mixedOrders = true) (hd : ∀ (j : Nat) (o : Oper), ops[j]? = some o → ∀ c, o.op ≠ .defer c) (hl : ¬ LetsOut Q) (hS : S w.drew)
    (h : S w.drew → wpAnyH P .any ops Q S ops.size (Array.replicate ops.size false) a w.drew) : (Code.region id ops true).wpIn (Fence.wide.inRound l) n P Q a w :=
  wpIn_region_any hm (wpAnyIn_of_wpAny hl hd _ _ _ _ (wpAny_of_held _ _ _ _ (h hS)))
end
end Go.Proofs.YtjanddnlhaionaaGreatDoor.L6
