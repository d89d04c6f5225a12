import Derived.Test.YtapfhonapejpjaaRG
namespace Go.Proofs.Ytapfhonapejpjaa
open Go.RowKit

def Zc : Obj := .cells #[.int .i64 0, .int .i64 0, .string ⟨#[]⟩] 24

/-- The reader's text, against the whole one. -/
def TxtRel (a tx : List UInt8) : Prop := (tx.length ≤ 40 → a = tx) ∧ (40 < tx.length → 40 < a.length)
theorem TxtRel.add {a tx e : List UInt8} (h : TxtRel a tx) : TxtRel (if a.length ≤ 40 then a ++ e else a) (tx ++ e) := by
  by_cases ht : tx.length ≤ 40
  · have := h.1 ht
    subst this
    rw [if_pos ht]
    exact ⟨fun _ => rfl, fun q => q⟩
  · have := h.2 (by omega)
    rw [if_neg (by omega)]
    refine ⟨fun q => ?_, fun _ => this⟩
    rw [List.length_append] at q; omega

/-- What holds at the head of text's loop. -/
def TLoop (s : ByteArray) (w : World) (res : Nat ⊕ R) (ov av : Value) (w' : World) : Prop :=
  ∃ (pos : Nat) (tx : List UInt8) (r : R), av = .int .i64 pos ∧ ov = .string ⟨tx.toArray⟩ ∧ pos ≤ s.size ∧ 1 ≤ pos ∧ tx.length ≤ pos ∧ r.st = 4 ∧ r.ov = false ∧ r.pos = false ∧ TxtRel r.txt tx ∧
    run pos (s.data.toList.drop pos) r = res ∧ Below (w.heap.size + 1) (w.alloc Zc) w'

structure Res1 (w w1 : World) : Prop where
  p0 : w1.cell? ⟨w.heap.size, 0, none⟩ = some (.int .i64 0)
  p1 : w1.cell? ⟨w.heap.size, 1, none⟩ = some (.int .i64 0)
  p2 : w1.cell? ⟨w.heap.size, 2, none⟩ = some (.string ⟨#[]⟩)
  f0 : w1.frozen? ⟨w.heap.size, 0, none⟩ = false
  f1 : w1.frozen? ⟨w.heap.size, 1, none⟩ = false
  f2 : w1.frozen? ⟨w.heap.size, 2, none⟩ = false
theorem res1 {w w1 : World} (h : Below (w.heap.size + 1) (w.alloc Zc) w1) : Res1 w w1 := by
  constructor
  all_goals first
    | (rw [h.cell (by simp only; omega)]; simp [Zc, go_sem]; done)
    | (rw [h.frozen (by simp only; omega)]; simp [Zc, go_sem]; done)
theorem below_res {w w1 : World} (h : Below (w.heap.size + 1) (w.alloc Zc) w1) (x y z : Value) : Below w.heap.size w (((w1.setCell ⟨w.heap.size, 0, none⟩ x).setCell ⟨w.heap.size, 1, none⟩ y).setCell ⟨w.heap.size, 2, none⟩ z) :=
  (((((Below.refl w.heap.size w).alloc (Nat.le_refl _) Zc).trans (h.mono (by omega))).setCell (Nat.le_refl _) _).setCell (Nat.le_refl _) _).setCell (Nat.le_refl _) _

theorem below_in {w wr w1 : World} (h : Below (w.heap.size + 1) (w.alloc Zc) wr) (h2 : Below wr.heap.size wr w1) : Below (w.heap.size + 1) (w.alloc Zc) w1 :=
  h.trans (h2.mono (by have := h.size; simp at this; omega))
theorem below_in_alloc {w wr : World} (h : Below (w.heap.size + 1) (w.alloc Zc) wr) (o : Obj) : Below (w.heap.size + 1) (w.alloc Zc) (wr.alloc o) :=
  h.alloc (by have := h.size; simp at this; omega) o

theorem byte_ext {b : UInt8} {n : Nat} (h : b.toNat = n) (hn : n < 256) : b = UInt8.ofNat n := u8_eq h hn

set_option maxRecDepth 100000 in
set_option maxHeartbeats 4000000 in
theorem text41 (s : ByteArray) (t : List UInt8) (w : World) (hs : s.size ≤ 5000) (h34 : s.data.toList = 34 :: t) :
    Calls Try.prog 41 #[.string s] w fun e w' => e = .returned (pVal (parseR s.data.toList)) ∧ Below w.heap.size w w' := by
  have hP : parseR s.data.toList = parseEnd s.size (run 1 (s.data.toList.drop 1) { R0 with st := 4 }) := by
    have hl : s.data.toList.length = s.size := rfl
    rw [parse_run, hl]
    congr 1
    rw [h34, run_one (by simp [R0])]
    rfl
  rw [hP]
  have hsz : 1 ≤ s.size := by have hl : s.data.toList.length = s.size := rfl; rw [h34, List.length_cons] at hl; omega
  have hst : TLoop s w (run 1 (s.data.toList.drop 1) { R0 with st := 4 }) (.string ⟨#[]⟩) (.int .i64 1) (w.alloc Zc) :=
    ⟨1, [], { R0 with st := 4 }, rfl, rfl, hsz, by omega, by simp, rfl, rfl, rfl, ⟨fun _ => rfl, fun q => by simp at q⟩, rfl, Below.refl _ _⟩
  generalize run 1 (s.data.toList.drop 1) { R0 with st := 4 } = res at hst ⊢
  clear hP h34
  obtain ⟨pv, hpv⟩ : ∃ pv, pVal (parseEnd s.size res) = pv := ⟨_, rfl⟩
  rw [hpv]
  have HPV := Lib.hid hpv; clear hpv
  have HST := Lib.hid hst; clear hst
  go_enter Try.func41, Try.ntmps41
  go_wp2
  go_loopw [5, 6] (fun o a w' => TLoop s w res o a w') (fun _ a _ => s.size - (intOf a).toNat)
  case atStart => exact HST.out
  case round =>
    obtain ⟨pos, tx, r, rfl, rfl, hpl, hp1, htl, h4, hov, hpo, htr, hrun, hbe⟩ := hrel
    have HOV := Lib.hid hov; have HPO := Lib.hid hpo; have H4 := Lib.hid h4
    clear hov hpo h4
    obtain ⟨p0, p1, p2, f0, f1, f2⟩ := res1 hbe
    have hwz : w.heap.size < wr.heap.size := by have := hbe.size; simp at this; omega
    have HRUN := Lib.hid hrun; clear hrun
    -- the answers, one a way
    have none4 : ∀ k : Nat, res = .inl k → Value.tuple #[.agg #[.int .i64 0, .int .i64 0, .string ⟨#[]⟩], .int .i64 k, .int .i64 4] = pv := fun k hk => by rw [← HPV.out, hk]; rfl
    have none3 : ∀ x : R, res = .inr x → completeR x = false → Value.tuple #[.agg #[.int .i64 0, .int .i64 0, .string ⟨#[]⟩], .int .i64 s.size, .int .i64 3] = pv := fun x hx hc => by rw [← HPV.out, hx]; simp [parseEnd, hc, pVal]
    have N4 := Lib.hid none4; have N3 := Lib.hid none3
    clear none4 none3
    by_cases hp : pos < s.size
    · cases hl : s.data.toList.drop pos with
      | nil => exact absurd (drop_nil_le hl) (by omega)
      | cons b t =>
      have HL := Lib.hid hl
      obtain ⟨_, hb, ht⟩ := drop_cons hl
      have hix := str_index s pos pos rfl hp
      rw [hb] at hix
      have hbl := b.toNat_lt
      have hw := width35 s pos wr hp hs
      have hrun := HRUN.out
      rw [hl] at hrun hw
      have t1 : (pos : Int) < (s.size : Int) := by omega
      clear hl hb
      have HT := Lib.hid ht; clear ht
      have HW := Lib.hid hw; clear hw
      by_cases q1 : b.toNat = 34
      · have c1 : ((b.toNat : Int) == 34) = true := by simp; omega
        rw [run_ascii4 pos (by omega), show readR r b.toNat = some { r with st := 8 } by simp [readR, H4.out, readPointR, q1]] at hrun
        simp only at hrun
        clear q1
        cases ht2 : t with
        | nil =>
          have hend : s.size = pos + 1 := by
            have := drop_len s pos
            rw [HL.out, ht2] at this
            simp only [List.length_cons, List.length_nil] at this
            omega
          have c2 : ((pos : Int) == (s.size : Int) - 1) = true := by simp; omega
          rw [ht2, run_nil] at hrun
          by_cases h40 : 40 < tx.length
          · have hv : Value.tuple #[.agg #[.int .i64 0, .int .i64 0, .string ⟨#[]⟩], .int .i64 0, .int .i64 5] = pv := by
              have := htr.2 h40
              rw [← HPV.out, ← hrun]
              have hb : bigR { r with st := 8 } = true := by simp [bigR]; omega
              simp [parseEnd, completeR, hb, pVal]
            have HV := Lib.hid hv
            have t2 : (40 : Int) < (tx.length : Int) := by omega
            clear hv hrun hend htr ht2
            go_wp2_with (go_at_call 35; go_must (refine HW.out.mono ?_); rintro e w' ⟨rfl, rfl⟩)
            refine bodyPost_ret (v := .tuple #[.agg #[.int .i64 0, .int .i64 0, .string ⟨#[]⟩], .int .i64 0, .int .i64 5]) (by simp [results, Try.results41, go_sem, p0, p1, p2]) rfl ⟨congrArg Ending.returned HV.out, ?_⟩
            exact below_res hbe _ _ _
          · have hv : Value.tuple #[.agg #[.int .i64 2, .int .i64 0, .string ⟨tx.toArray⟩], .int .i64 s.size, .int .i64 0] = pv := by
              have htx := htr.1 (by omega)
              rw [← HPV.out, ← hrun]
              have hb : bigR { r with st := 8 } = false := by simp [bigR, HOV.out, HPO.out, htx]; omega
              rw [← htx]
              simp [parseEnd, completeR, hb, pVal, vKind, vNum, vText]
            have HV := Lib.hid hv
            have t2 : ¬ (40 : Int) < (tx.length : Int) := by omega
            clear hv hrun hend htr ht2
            go_wp2_with (go_at_call 35; go_must (refine HW.out.mono ?_); rintro e w' ⟨rfl, rfl⟩)
            refine bodyPost_ret (v := .tuple #[.agg #[.int .i64 2, .int .i64 0, .string ⟨tx.toArray⟩], .int .i64 s.size, .int .i64 0]) (by simp [results, Try.results41, go_sem, p0, p1, p2]) rfl ⟨congrArg Ending.returned HV.out, ?_⟩
            exact below_res hbe _ _ _
        | cons b2 t2 =>
          have hend : pos + 1 < s.size := by
            have := drop_len s pos
            rw [HL.out, ht2] at this
            simp only [List.length_cons] at this
            omega
          have c2 : ((pos : Int) == (s.size : Int) - 1) = false := by simp; omega
          rw [ht2, run_one (by simp), show readR { r with st := 8 } b2.toNat = none by simp [readR]] at hrun
          have hv := Lib.hid (N4.out (pos + 1) hrun.symm)
          rw [show (((pos + 1 : Nat)) : Int) = (pos : Int) + 1 by omega] at hv
          clear hrun ht2 htr
          go_wp2_with (go_at_call 35; go_must (refine HW.out.mono ?_); rintro e w' ⟨rfl, rfl⟩)
          refine bodyPost_ret (v := .tuple #[.agg #[.int .i64 0, .int .i64 0, .string ⟨#[]⟩], .int .i64 ((pos : Int) + 1), .int .i64 4]) (by simp [results, Try.results41, go_sem, p0, p1, p2]) rfl ⟨congrArg Ending.returned hv.out, ?_⟩
          exact below_res hbe _ _ _
      have c1 : ((b.toNat : Int) == 34) = false := by simp; omega
      by_cases q2 : b.toNat = 92
      · have c3 : ((b.toNat : Int) == 92) = true := by simp; omega
        rw [run_ascii4 pos (by omega), show readR r b.toNat = some { r with st := 5 } by simp [readR, H4.out, readPointR, q2]] at hrun
        simp only at hrun
        have hesc := escape54 s (pos + 1) wr hs (by omega)
        rw [HT.out] at hesc
        have hlt : t.length = s.size - (pos + 1) := by rw [← HT.out, drop_len]
        obtain ⟨e1, e2⟩ := esc_run t (pos + 1) { r with st := 5 } rfl
        generalize escR t = er at hesc e1 e2
        obtain ⟨eb, ek⟩ := er
        simp only at e1 e2
        unfold EscTo at hesc
        simp only at hesc
        rw [show (((pos + 1 : Nat)) : Int) = (pos : Int) + 1 by omega] at hesc
        have HE := Lib.hid hesc; clear hesc
        clear q1 q2
        by_cases hneg : eb < 0
        · obtain ⟨k2, g1, g2⟩ := e2 hneg
          clear e1 e2
          have hstop := fun w => stop55 s (pos + 1 + ek) w
          have hv : Value.tuple #[.agg #[.int .i64 0, .int .i64 0, .string ⟨#[]⟩], .int .i64 ((if s.size ≤ pos + 1 + ek then s.size else pos + 1 + ek : Nat) : Int), .int .i64 (if s.size ≤ pos + 1 + ek then 3 else 4)] = pv := by
            by_cases hz : s.size ≤ pos + 1 + ek
            · obtain ⟨r', g3, g4⟩ := g2 (by omega)
              rw [if_pos hz, if_pos hz]
              exact N3.out r' (by rw [← hrun, g3]) g4
            · rw [if_neg hz, if_neg hz]
              exact N4.out _ (by rw [← hrun, g1 (by omega)])
          generalize (if s.size ≤ pos + 1 + ek then s.size else pos + 1 + ek : Nat) = sa at hstop hv
          generalize (if s.size ≤ pos + 1 + ek then (3 : Int) else 4) = se at hstop hv
          rw [show (((pos + 1 + ek : Nat)) : Int) = (pos : Int) + 1 + ek by omega] at hstop
          have HS := Lib.hid hstop; have HV := Lib.hid hv
          clear hstop hv g1 g2 hrun htr hlt
          go_wp2_with (go_at_call 35; go_must (refine HW.out.mono ?_); rintro e w' ⟨rfl, rfl⟩)
          refine HE.out.mono ?_
          rintro e w1 ⟨rfl, hb1⟩
          have hbe1 := below_in hbe hb1
          go_wp2_with fail
          refine (HS.out _).mono ?_
          rintro e w2 ⟨rfl, hb2⟩
          have hbe2 := below_in hbe1 hb2
          clear p0 p1 p2 f0 f1 f2
          obtain ⟨p0, p1, p2, f0, f1, f2⟩ := res1 hbe2
          go_wp2
          refine bodyPost_ret (v := .tuple #[.agg #[.int .i64 0, .int .i64 0, .string ⟨#[]⟩], .int .i64 (sa : Int), .int .i64 se]) (by simp [results, Try.results41, go_sem, p0, p1, p2]) rfl ⟨congrArg Ending.returned HV.out, ?_⟩
          exact below_res hbe2 _ _ _
        · obtain ⟨x1, x2, x3, hh, x4⟩ := e1 (by omega)
          clear e2
          obtain ⟨ec, rfl⟩ : ∃ ec : Nat, eb = (ec : Int) := ⟨eb.toNat, by omega⟩
          have hva : Utf8.valid (ec : Int) = true := asc_valid (by omega)
          have hx : ((UInt8.ofNat ec).toNat : Int) = (ec : Int) := by rw [ofNat_toNat _ (by omega)]
          have hcv := fun w => conv_one w (ec : Int) (UInt8.ofNat ec) hx
          have hnew : TxtRel (addPointR { { r with st := 5 } with hi := hh } ec).txt (tx ++ [UInt8.ofNat ec]) := by
            rw [addPointR_txt hva, encB_1 (by omega)]
            exact htr.add
          rw [x4, show t.drop ek = s.data.toList.drop (pos + 1 + ek) by rw [← HT.out, List.drop_drop]] at hrun
          obtain ⟨r2, hr2⟩ : ∃ r2, addPointR { { r with st := 5 } with hi := hh } ec = r2 := ⟨_, rfl⟩
          have hr3 : r2.st = 4 ∧ r2.ov = false ∧ r2.pos = false := by rw [← hr2]; exact ⟨rfl, HOV.out, HPO.out⟩
          rw [hr2] at hrun hnew
          have HR := Lib.hid hrun; have HN := Lib.hid hnew; have HR3 := Lib.hid hr3
          clear hr2 hr3
          have hcat : (⟨tx.toArray⟩ : ByteArray) ++ ⟨#[UInt8.ofNat ec]⟩ = ⟨(tx ++ [UInt8.ofNat ec]).toArray⟩ := ByteArray.mk_append_mk tx [UInt8.ofNat ec]
          have HC := Lib.hid hcat
          obtain ⟨O, hO⟩ : ∃ O : ByteArray, ⟨tx.toArray⟩ = O := ⟨_, rfl⟩
          have hOs : O.size ≤ 5000 := by rw [← hO, size_list]; omega
          rw [hO] at HC
          simp only [hO]
          clear hrun hnew hcat htr x4 e1 hO hx hva
          generalize UInt8.ofNat ec = u at hcv HN HC
          go_wp2_with (go_at_call 35; go_must (refine HW.out.mono ?_); rintro e w' ⟨rfl, rfl⟩)
          refine HE.out.mono ?_
          rintro e w1 ⟨rfl, hb1⟩
          have hbe1 := below_in hbe hb1
          go_wp2
          go_roundw
          case rel => exact ⟨pos + 1 + ek, tx ++ [u], r2, by go_num, by rw [HC.out], by omega, by omega, by rw [List.length_append, List.length_singleton]; omega, HR3.out.1, HR3.out.2.1, HR3.out.2.2, HN.out, HR.out, below_in_alloc hbe1 _⟩
          case measure => simp [intOf]; omega
      · have c3 : ((b.toNat : Int) == 92) = false := by simp; omega
        rw [run_step pos (by simp)] at hrun
        cases hd : dec4 (b :: t) with
        | none =>
          rw [hd] at hrun
          rw [width_of_none hd] at HW
          have hv := Lib.hid (N4.out pos hrun.symm)
          clear hrun htr hd q1 q2
          go_wp2_with (go_at_call 35; go_must (refine HW.out.mono ?_); rintro e w' ⟨rfl, rfl⟩)
          refine bodyPost_ret (v := .tuple #[.agg #[.int .i64 0, .int .i64 0, .string ⟨#[]⟩], .int .i64 (pos : Int), .int .i64 4]) (by simp [results, Try.results41, go_sem, p0, p1, p2]) rfl ⟨congrArg Ending.returned hv.out, ?_⟩
          exact below_res hbe _ _ _
        | some cd =>
          obtain ⟨c, d⟩ := cd
          obtain ⟨d1, d4, dl, hva, henc, _⟩ := dec4_split hd
          rw [enc_encB hva] at henc
          rw [hd] at hrun
          rw [width_of_dec hd] at HW
          simp only at hrun
          have hcb : (b.toNat < 128 → c = b.toNat) ∧ (128 ≤ b.toNat → 128 ≤ c) := by
            refine ⟨fun q => ?_, fun q => dec4_high q hd⟩
            rw [dec4_1 q] at hd
            simp only [Option.some.injEq, Prod.mk.injEq] at hd
            exact hd.1.symm
          have hc34 : ¬ (c : Int) = 34 := by by_cases q : b.toNat < 128; have := hcb.1 q; omega; have := hcb.2 (by omega); omega
          have hc92 : ¬ (c : Int) = 92 := by by_cases q : b.toNat < 128; have := hcb.1 q; omega; have := hcb.2 (by omega); omega
          have bw : ((d : Int) == 0) = false := by simp; omega
          rw [show readR r c = readPointR r c by simp [readR, H4.out]] at hrun
          unfold readPointR at hrun
          rw [if_neg hc34, if_neg hc92] at hrun
          clear hc34 hc92 hd q1 q2
          by_cases hctl : b.toNat < 32 ∨ b.toNat = 127
          · have hic : isCtl (c : Int) = true := by
              have := hcb.1 (by omega)
              simp only [isCtl, Bool.or_eq_true, decide_eq_true_eq, beq_iff_eq]; omega
            rw [if_pos hic] at hrun
            have hv := Lib.hid (N4.out pos hrun.symm)
            clear hrun htr hic hcb
            rcases hctl with q | q
            · have t4 : (b.toNat : Int) < 32 := by omega
              go_wp2_with (go_at_call 35; go_must (refine HW.out.mono ?_); rintro e w' ⟨rfl, rfl⟩)
              refine bodyPost_ret (v := .tuple #[.agg #[.int .i64 0, .int .i64 0, .string ⟨#[]⟩], .int .i64 (pos : Int), .int .i64 4]) (by simp [results, Try.results41, go_sem, p0, p1, p2]) rfl ⟨congrArg Ending.returned hv.out, ?_⟩
              exact below_res hbe _ _ _
            · have t4 : ¬ (b.toNat : Int) < 32 := by omega
              have c5 : ((b.toNat : Int) == 127) = true := by simp; omega
              clear q
              go_wp2_with (go_at_call 35; go_must (refine HW.out.mono ?_); rintro e w' ⟨rfl, rfl⟩)
              refine bodyPost_ret (v := .tuple #[.agg #[.int .i64 0, .int .i64 0, .string ⟨#[]⟩], .int .i64 (pos : Int), .int .i64 4]) (by simp [results, Try.results41, go_sem, p0, p1, p2]) rfl ⟨congrArg Ending.returned hv.out, ?_⟩
              exact below_res hbe _ _ _
          · have hic : isCtl (c : Int) = false := by
              cases hq : isCtl (c : Int) with
              | false => rfl
              | true =>
                exfalso
                simp only [isCtl, Bool.or_eq_true, decide_eq_true_eq, beq_iff_eq] at hq
                by_cases q : b.toNat < 128
                · have := hcb.1 q; omega
                · have := hcb.2 (by omega); omega
            rw [hic, if_neg (by simp)] at hrun
            simp only at hrun
            have hnew : TxtRel (addPointR r c).txt (tx ++ encB c) := by
              rw [addPointR_txt hva]; exact htr.add
            have hel : (encB c).length = d := by rw [henc, List.length_take]; omega
            have hsl : s.extract pos (pos + d) = ⟨(encB c).toArray⟩ := by
              apply bytes_of_list
              rw [extract_list, HL.out, show pos + d - pos = d by omega, henc]
            rw [show (b :: t).drop d = s.data.toList.drop (pos + d) by rw [← HL.out, List.drop_drop]] at hrun
            have hpd : pos + d ≤ s.size := by
              have := drop_len s pos
              rw [HL.out] at this
              rw [this] at dl; omega
            obtain ⟨r2, hr2⟩ : ∃ r2, addPointR r c = r2 := ⟨_, rfl⟩
            have hr3 : r2.st = 4 ∧ r2.ov = false ∧ r2.pos = false := by rw [← hr2]; exact ⟨rfl, HOV.out, HPO.out⟩
            rw [hr2] at hrun hnew
            have HR := Lib.hid hrun; have HN := Lib.hid hnew; have HR3 := Lib.hid hr3
            have hcat : (⟨tx.toArray⟩ : ByteArray) ++ ⟨(encB c).toArray⟩ = ⟨(tx ++ encB c).toArray⟩ := ByteArray.mk_append_mk tx (encB c)
            rw [← hsl] at hcat
            have HC := Lib.hid hcat
            have hes : (s.extract pos (pos + d)).size ≤ 4 := by rw [hsl, size_list, hel]; exact d4
            obtain ⟨O, hO⟩ : ∃ O : ByteArray, ⟨tx.toArray⟩ = O := ⟨_, rfl⟩
            have hOs : O.size ≤ 5000 := by rw [← hO, size_list]; omega
            rw [hO] at HC
            simp only [hO]
            have t4 : ¬ (b.toNat : Int) < 32 := by omega
            have c5 : ((b.toNat : Int) == 127) = false := by simp; omega
            have HEL := Lib.hid hel
            clear hrun hnew hcat htr hO hr2 hr3 hsl hel hic hcb hctl henc hva
            go_wp2_with (go_at_call 35; go_must (refine HW.out.mono ?_); rintro e w' ⟨rfl, rfl⟩)
            go_roundw
            case rel => exact ⟨pos + d, tx ++ encB c, r2, by go_num, by rw [HC.out], by omega, by omega, by rw [List.length_append, HEL.out]; omega, HR3.out.1, HR3.out.2.1, HR3.out.2.2, HN.out, HR.out, hbe⟩
            case measure => simp [intOf]; omega
    · have hnil := drop_nil hp
      have hrun := HRUN.out
      rw [hnil, run_nil] at hrun
      have hv := Lib.hid (N3.out r hrun.symm (by simp [completeR, H4.out]))
      clear hrun hnil
      go_wp2
      refine bodyPost_ret (v := .tuple #[.agg #[.int .i64 0, .int .i64 0, .string ⟨#[]⟩], .int .i64 s.size, .int .i64 3]) (by simp [results, Try.results41, go_sem, p0, p1, p2]) rfl ⟨congrArg Ending.returned hv.out, ?_⟩
      exact below_res hbe _ _ _
end Go.Proofs.Ytapfhonapejpjaa
