/-
  The contracts of store and Commit. No condition but on lengths.
-/
import Derived.Test.YtjanddnlhaionaaGreatDoorSJ
import Derived.Test.YtjanddnlhaionaaGreatDoorSE
set_option maxRecDepth 100000
namespace Go.Proofs.YtjanddnlhaionaaGreatDoor
open Go.RowKit
open L4 (C LAt LNF Wf okC encC putS putE Box)

/-- The encodings of the fresh objects. -/
def encs (st : Sf) : List ByteArray := st.fresh.map fun id => (st.m id).getD ⟨#[]⟩
theorem encs_len (st : Sf) : (encs st).length = st.fresh.length := by unfold encs; rw [List.length_map]
/-- The batch of the fresh objects is written. -/
def recS (st : Sf) (c : C) : ByteArray := putS (batC c (encs st))
def stoE (st : Sf) (d : L6.D) (c : C) : Int := if putE (batC c (encs st)) = 0 then (if L6.appE st.t d (recS st c) = 0 then L6.flushE (L6.appT st.t d (recS st c)) (L6.appD st.t d (recS st c)) else L6.appE st.t d (recS st c)) else putE (batC c (encs st))
def stoD (st : Sf) (d : L6.D) (c : C) : L6.D := if putE (batC c (encs st)) = 0 then (if L6.appE st.t d (recS st c) = 0 then L6.flushD (L6.appT st.t d (recS st c)) (L6.appD st.t d (recS st c)) else L6.appD st.t d (recS st c)) else d
def stoT (st : Sf) (d : L6.D) (c : C) : L6.T := if putE (batC c (encs st)) = 0 then (if L6.appE st.t d (recS st c) = 0 then L6.flushT (L6.appT st.t d (recS st c)) (L6.appD st.t d (recS st c)) else L6.appT st.t d (recS st c)) else st.t

theorem write_wlen (d : L6.D) (i : Int) (s : ByteArray) : (L6.writeD d i s).W.length ≤ d.W.length + 1 := by
  unfold L6.writeD
  split
  · split
    · rw [L6.burn_W]; omega
    · simp
  · omega
theorem wrK_wlen (t : L6.T) (s : ByteArray) (d : L6.D) : ∀ k, (L6.wrK t s d k).1.W.length ≤ d.W.length + k
  | 0 => Nat.le_refl _
  | k + 1 => by
    have ih := wrK_wlen t s d k
    unfold L6.wrK
    split
    · exact Nat.le_trans (write_wlen _ _ _) (by omega)
    · omega
theorem appD_wlen (t : L6.T) (d : L6.D) (s : ByteArray) (h : d.S.length ≤ 4096) : (L6.appD t d s).W.length ≤ d.W.length + 4096 := by
  unfold L6.appD
  split
  · rename_i hf
    unfold L6.appFits at hf
    rw [Bool.and_eq_true, decide_eq_true_eq, decide_eq_true_eq] at hf
    exact Nat.le_trans (wrK_wlen _ _ _ _) (by omega)
  · omega
theorem SfAt.other {w0 w w' : World} {sb mb bt bl b : Nat} {fv : Value} {d : L6.D} {s : Sf} {G : Nat → Prop} (h : SfAt w0 w sb mb fv bt bl b d s) (ht : L6.Turn G w w') (hG : ∀ k, G k → (w0.heap.size ≤ k ∧ ∃ o, w.heap[k]? = some o ∧ Alien o) ∧ ¬ Mine sb mb fv k) : SfAt w0 w' sb mb fv bt bl b d s := by
  have hk : ∀ k, Mine sb mb fv k → w'.heap[k]? = w.heap[k]? := fun k hm => by
    obtain ⟨-, o, ho, -⟩ := h.mine k hm
    exact ht.block k (Array.getElem?_eq_some_iff.1 ho).1 (fun hg => (hG k hg).2 hm)
  exact ⟨TN.turn h.tn ht (fun k hg => (hG k hg).1), by rw [hk sb (.inl rfl)]; exact h.row, h.map.keep (hk mb (.inr (.inl rfl))), L6.row_keep h.fr (fun k hv => hk k (.inr (.inr hv))), h.sb0, h.mb0⟩

theorem txts_row {w : World} {B : Nat} {v : Value} {l : List ByteArray} (h : w.ownsRow B 9 1 v l.length (L6.strs l)) : TxtsAt w w.heap.size v l := by
  rcases id h.2 with ⟨rfl, h0⟩ | ⟨g, cap, cur, rfl, hb, hg, hnc, hcm, _, htake⟩
  · have : l = [] := List.length_eq_zero_iff.1 h0
    subst this
    exact TxtsAt.nil _ _
  · refine ⟨some ⟨g, 0, none⟩, cap, rfl, hnc, hcm, fun _ => ⟨g, 0, rfl, (Array.getElem?_eq_some_iff.1 hg).1, fun i hi => ?_⟩⟩
    rw [Nat.zero_add, h.cellAt i (by omega)]
    unfold L6.strs
    rw [List.getElem?_map, List.getElem?_eq_getElem hi]
    rfl

set_option maxHeartbeats 4000000 in
theorem store78 {w0 w : World} {sb mb bt bl b : Nat} {fv : Value} {d : L6.D} {st : Sf} (h : SfAt w0 w sb mb fv bt bl b d st) (hids : ∀ id ∈ st.fresh, id.size ≤ maxLen) (hn : st.fresh.length ≤ 3900)
    (ck cn : Int) (cs : ByteArray) (cl : List C) (u : Value) (dd : Nat) (hc : LNF 0 w w.heap.size dd u cl) (hwf : Wf (.mk ck cn cs cl)) (hcnt : L4.cntC (.mk ck cn cs cl) ≤ 1000)
    (hs : ∀ s ∈ encs st, s.size ≤ 9223372036854775807) (hlen : okC 16 (batC (.mk ck cn cs cl) (encs st)) = true → (encC 16 (batC (.mk ck cn cs cl) (encs st))).length ≤ 1000000)
    (hw : d.W.length + 4096 ≤ 1000000) (hct : st.t.count < 1000000) :
    Calls Tryz.prog 78 #[.pointer (some ⟨sb, 0, none⟩), .agg #[.int .i64 ck, .int .i64 cn, .string cs, u]] w fun e w' => e = .returned (.int .i64 (stoE st d (.mk ck cn cs cl))) ∧ SfAt w0 w' sb mb fv bt bl b (stoD st d (.mk ck cn cs cl)) { st with t := stoT st d (.mk ck cn cs cl) } ∧ ∀ G, Stand w0 w w' G := by
  obtain ⟨S, hS⟩ : ∃ S, putS (batC (.mk ck cn cs cl) (encs st)) = S := ⟨_, rfl⟩
  obtain ⟨E, hE⟩ : ∃ E, putE (batC (.mk ck cn cs cl) (encs st)) = E := ⟨_, rfl⟩
  have HSE := Lib.hid (And.intro hS hE)
  have HXE : Hid (stoE st d (.mk ck cn cs cl) = if E = 0 then (if L6.appE st.t d S = 0 then L6.flushE (L6.appT st.t d S) (L6.appD st.t d S) else L6.appE st.t d S) else E) := by unfold Hid stoE recS; rw [hS, hE]
  have HXD : Hid (stoD st d (.mk ck cn cs cl) = if E = 0 then (if L6.appE st.t d S = 0 then L6.flushD (L6.appT st.t d S) (L6.appD st.t d S) else L6.appD st.t d S) else d) := by unfold Hid stoD recS; rw [hS, hE]
  have HXT : Hid (stoT st d (.mk ck cn cs cl) = if E = 0 then (if L6.appE st.t d S = 0 then L6.flushT (L6.appT st.t d S) (L6.appD st.t d S) else L6.appT st.t d S) else st.t) := by unfold Hid stoT recS; rw [hS, hE]
  clear hS hE
  generalize stoE st d (.mk ck cn cs cl) = X1 at HXE ⊢
  generalize stoD st d (.mk ck cn cs cl) = X2 at HXD ⊢
  generalize stoT st d (.mk ck cn cs cl) = X3 at HXT ⊢
  obtain ⟨A, cap, rfl⟩ := L6.row_slice h.fr
  have HBX := Lib.hid (Box.new w (.mk ck cn cs cl) u)
  have hold := h.old.size
  obtain ⟨W1, hW1⟩ : ∃ W1, w.alloc (.cells #[.int .i64 ck, .int .i64 cn, .string cs, u] 38) = W1 := ⟨_, rfl⟩
  have HB1 : Hid (Box w (.mk ck cn cs cl) u W1) := by rw [← hW1]; exact HBX.out
  have h1 := h.below HB1.out.old
  obtain ⟨i9, hi9, hz0, hz1, hz2⟩ := L6.info9
  obtain ⟨w1, hm, ho, hg⟩ := run_make_full (P := Tryz.prog) W1 (W1.heap.size) 25 9 i9 _ 1 Tryz.underlying25 hi9 hz0 hz1 .i64 .i64 st.fresh.length (by rw [hz2]; omega) (by unfold maxLen; omega) (Nat.le_refl _)
  have hbw : Below W1.heap.size W1 w1 := (Below.refl _ _).grown hg (Nat.le_refl _) (fun k hk => by cases hk)
  have h2 := h1.below hbw
  have HB2 := Lib.hid (HB1.out.step hbw)
  obtain ⟨n, hnn⟩ : ∃ n, st.fresh.length = n := ⟨_, rfl⟩
  have HN := Lib.hid hnn
  obtain ⟨g, hgg⟩ : ∃ g, W1.heap.size = g := ⟨_, rfl⟩
  have HO : Hid (w1.ownsRow g 9 1 (.slice (some ⟨g, 0, none⟩) n n) n (strK (encs st) 0)) := by
    have e : (madeCells (Value.string ByteArray.empty).cells (st.fresh.length * 1)).toList = strK (encs st) 0 := by
      rw [show (Value.string ByteArray.empty).cells = #[Value.string ByteArray.empty] from rfl, toList_madeCells_one, Nat.mul_one]
      simp [strK, L6.strs, encs_len]
    rw [← e, ← hnn, ← hgg]; exact ho
  have HGW : Hid (W1.heap.size = g ∧ w.heap.size < g) := ⟨hgg, by have := HB1.out.size; omega⟩
  obtain ⟨-, -, q2, -⟩ := h1.cells
  rw [← hW1] at q2
  rw [hgg] at hm
  rw [← hW1] at hm
  have HI := Lib.hid hids
  have HS := Lib.hid hs
  have HC := Lib.hid hc
  have HWF := Lib.hid hwf
  have H2 := Lib.hid h2
  have HW : Hid (d.W.length + 4096 ≤ 1000000 ∧ st.t.count < 1000000) := ⟨hw, hct⟩
  have HOL := Lib.hid hold
  have HSN : Hid (d.S.length ≤ 4096) := by obtain ⟨F, hF, -⟩ := h.tn; exact hF.p.ok.n2
  have HML : Hid (∀ k, Mine sb mb (.slice A st.fresh.length cap) k → k < w.heap.size) := fun k hk => by obtain ⟨-, o, ho, -⟩ := h.mine k hk; exact (Array.getElem?_eq_some_iff.1 ho).1
  obtain ⟨-, -, r2, -⟩ := h2.cells
  clear h h1 hW1 ho hg hbw h2 hgg HBX HB1 hids hs hc hwf hw hct hold
  rw [hnn] at hm q2 r2 hn HML ⊢
  clear hnn
  go_enter Tryz.func78, Tryz.ntmps78
  go_wp2_with fail
  clear hm q2 r2
  go_loopw [22] (fun s22 wr => ∃ k : Nat, k ≤ n ∧ s22 = .int .i64 k ∧ Hid (SfAt w0 wr sb mb (.slice A n cap) bt bl b d st) ∧ Hid (Box w (.mk ck cn cs cl) u wr) ∧ Hid (wr.ownsRow g 9 1 (.slice (some ⟨g, 0, none⟩) n n) n (strK (encs st) k))) (fun s22 _ => n - (intOf s22).toNat)
  case atStart => exact ⟨0, Nat.zero_le _, rfl, by have := H2.out; rw [HN.out] at this; exact this, HB2, HO⟩
  case round =>
    obtain ⟨k, hk, rfl, HR, HBR, HOR⟩ := hrel
    clear H2 HB2 HO
    obtain ⟨-, c1, -, -⟩ := HR.out.cells
    by_cases hlt : k < n
    · have hkl : k < st.fresh.length := by rw [HN.out]; exact hlt
      have hke : k < (encs st).length := by rw [encs_len]; exact hkl
      obtain ⟨ga, cap', hga⟩ := L6.row_some HR.out.fr (by omega)
      simp only [Value.slice.injEq] at hga
      obtain ⟨rfl, -, -⟩ := hga
      have hck : wr.cell? ⟨ga, k, none⟩ = some (.string st.fresh[k]) := by
        have := HR.out.fr
        rw [HN.out] at this
        rw [this.cellAt k (by omega)]
        unfold L6.strs
        rw [List.getElem?_map, List.getElem?_eq_getElem hkl]
        rfl
      have hid := HI.out st.fresh[k] (List.getElem_mem hkl)
      have hE : (encs st)[k] = (st.m st.fresh[k]).getD ⟨#[]⟩ := by simp [encs]
      have hset := strK_set (encs st) k hke
      rw [hE] at hset
      have hlk := (HR.out.map.look85 st.fresh[k] hid).2
      generalize st.fresh[k] = id at hck hid hset hlk hE
      generalize (st.m id).getD ⟨#[]⟩ = v at hset hlk
      have hst := (HOR.out.stored k (.string v)).1
      rw [hset] at hst
      have HST := Lib.hid hst
      have hgk := (HOR.out.cellAt k (by omega)).trans (strK_get (encs st) k hke)
      have hgf := HOR.out.frozenAt k
      have hglt := L6.row_lt HOR.out rfl
      have HX : Hid (SfAt w0 (wr.setCell ⟨g, k, none⟩ (.string v)) sb mb (.slice (some ⟨ga, 0, none⟩) n cap) bt bl b d st ∧ Box w (.mk ck cn cs cl) u (wr.setCell ⟨g, k, none⟩ (.string v))) := by
        refine ⟨HR.out.other (G := fun j => j = g) ((L6.Turn.refl _ _).setCell _ _ (.inl rfl)) (fun j hj => ?_), ⟨HBR.out.below.setCell (show w.heap.size + 1 ≤ g from HGW.out.2) _⟩⟩
        subst hj
        obtain ⟨cs', hc'⟩ := L6.row_ty HOR.out rfl
        exact ⟨⟨Nat.le_trans HOL.out (by have := HGW.out.2; omega), _, hc', alien9 _⟩, fun hm => by have := HML.out j hm; have := HGW.out.2; omega⟩
      have HLT : Hid (k < n) := hlt
      clear hst hset hE hglt HR HBR HOR hkl hke
      go_wp2_with fail
      go_roundw
      case rel => exact ⟨k + 1, HLT.out, by go_num, HX.out.1, HX.out.2, HST⟩
      case measure => have := HLT.out; simp [intOf]; omega
    · have hkn : k = n := by omega
      subst hkn
      have hoe := HOR.out
      have hel := encs_len st
      rw [HN.out] at hel
      rw [← hel, strK_end, hel] at hoe
      have hbx := HBR.out
      have b0 : wr.cell? ⟨w.heap.size, 0, none⟩ = some (.int .i64 ck) := hbx.cell 0
      have b1 : wr.cell? ⟨w.heap.size, 1, none⟩ = some (.int .i64 cn) := hbx.cell 1
      have b2 : wr.cell? ⟨w.heap.size, 2, none⟩ = some (.string cs) := hbx.cell 2
      have b3 : wr.cell? ⟨w.heap.size, 3, none⟩ = some u := hbx.cell 3
      have HWB := Lib.hid (writeBatch131 ck cn cs cl u dd (encs st) (.slice (some ⟨g, 0, none⟩) k k) wr (lnf_step HC.out hbx.old) HWF.out hcnt (txts_row (by rw [hel]; exact hoe)) (by rw [hel]; exact hn) HS.out hlen)
      have HRL : Hid ((putS (batC (.mk ck cn cs cl) (encs st))).size ≤ 1000000000) := by
        unfold Hid L4.putS
        split
        · rename_i hok
          show (encC 16 (batC (.mk ck cn cs cl) (encs st))).toArray.size ≤ _
          rw [List.size_toArray]
          exact Nat.le_trans (hlen hok) (by omega)
        · show (0 : Nat) ≤ _; omega
      clear hoe hel hbx HOR hlen hcnt
      rw [HSE.out.1, HSE.out.2] at HWB
      rw [HSE.out.1] at HRL
      go_wp2_with fail
      refine HWB.out.mono ?_
      rintro _ w4 ⟨rfl, hb4⟩
      have h4 := HR.out.below hb4
      have HS4 : Hid (∀ G, Stand w0 w w4 G) := fun G => Stand.of_below (HBR.out.old.trans (hb4.mono HBR.out.old.size)) HOL.out G
      obtain ⟨r0, -, -, -⟩ := h4.cells
      have H4 := Lib.hid h4
      clear HWB hb4 h4 HR HBR b0 b1 b2 b3 c1
      by_cases hE0 : E = 0
      · have t1 : (E != 0) = false := by rw [hE0]; rfl
        have HA := Lib.hid (appendA H4.out.tn HW.out.1 HW.out.2 S HRL.out)
        obtain ⟨ae, hae⟩ : ∃ ae, L6.appE st.t d S = ae := ⟨_, rfl⟩
        have HAE := Lib.hid hae
        rw [hae] at HA
        have HE0 := Lib.hid hE0
        clear hae hE0
        go_wp2_with fail
        refine HA.out.mono ?_
        rintro _ w5 ⟨rfl, ht5, hs5⟩
        have h5 := H4.out.tape ht5 hs5
        have HS5 : Hid (∀ G, Stand w0 w w5 G) := fun G => (HS4.out G).trans (hs5 G) (fun k hk => .inl hk)
        obtain ⟨q0, -, -, -⟩ := h5.cells
        have H5 := Lib.hid h5
        clear HA ht5 hs5 h5 H4 HS4 r0
        by_cases ha0 : ae = 0
        · have t2 : (ae != 0) = false := by rw [ha0]; rfl
          have hwl : (L6.appD st.t d S).W.length ≤ 1000000 := Nat.le_trans (appD_wlen st.t d S HSN.out) HW.out.1
          have HF := Lib.hid (settleA H5.out.tn hwl)
          have HA0 := Lib.hid ha0
          clear ha0
          go_wp2_with fail
          refine HF.out.mono ?_
          rintro _ w6 ⟨rfl, ht6, hs6⟩
          have H6 := Lib.hid (H5.out.tape ht6 hs6)
          have HS6 : Hid (∀ G, Stand w0 w w6 G) := fun G => (HS5.out G).trans (hs6 G) (fun k hk => .inl hk)
          clear HF ht6 hs6 H5 HS5 q0
          have e1 : L6.flushE (L6.appT st.t d S) (L6.appD st.t d S) = X1 := by rw [HXE.out, if_pos HE0.out, if_pos (HAE.out.trans HA0.out)]
          have e2 : L6.flushD (L6.appT st.t d S) (L6.appD st.t d S) = X2 := by rw [HXD.out, if_pos HE0.out, if_pos (HAE.out.trans HA0.out)]
          have e3 : L6.flushT (L6.appT st.t d S) (L6.appD st.t d S) = X3 := by rw [HXT.out, if_pos HE0.out, if_pos (HAE.out.trans HA0.out)]
          rw [e2, e3] at H6
          rw [e1]
          clear e1 e2 e3
          go_wp2_with fail
          go_ret
          exact ⟨rfl, H6.out, HS6.out⟩
        · have t2 : (ae != 0) = true := by simp [ha0]
          have hne : ¬ L6.appE st.t d S = 0 := by rw [HAE.out]; exact ha0
          have e1 : ae = X1 := by rw [HXE.out, if_pos HE0.out, if_neg hne]; exact HAE.out.symm
          have e2 : L6.appD st.t d S = X2 := by rw [HXD.out, if_pos HE0.out, if_neg hne]
          have e3 : L6.appT st.t d S = X3 := by rw [HXT.out, if_pos HE0.out, if_neg hne]
          rw [e2, e3] at H5
          clear ha0 hne e2 e3
          subst e1
          go_wp2_with fail
          go_ret
          exact ⟨rfl, H5.out, HS5.out⟩
      · have t1 : (E != 0) = true := by simp [hE0]
        have e1 : E = X1 := by rw [HXE.out, if_neg hE0]
        have e2 : d = X2 := by rw [HXD.out, if_neg hE0]
        have e3 : st.t = X3 := by rw [HXT.out, if_neg hE0]
        have H4' : Hid (SfAt w0 w4 sb mb (.slice A k cap) bt bl b X2 { st with t := X3 }) := by rw [← e2, ← e3]; exact H4.out
        clear hE0 e2 e3
        subst e1
        go_wp2_with fail
        go_ret
        exact ⟨rfl, H4'.out, HS4.out⟩

/-! ### Commit -/
def comOK (c : C) : Bool := okC 16 c && decide (depC c ≤ 14)
def comE (st : Sf) (d : L6.D) (c : C) : Int := if comOK c then stoE st d c else 2
def comD (st : Sf) (d : L6.D) (c : C) : L6.D := if comOK c then stoD st d c else d
def comSt (st : Sf) (d : L6.D) (c : C) : Sf := if comOK c then (if stoE st d c = 0 then { st with t := stoT st d c, fresh := [] } else remSt { st with t := stoT st d c }) else st

theorem box_facts {w W : World} {ck cn : Int} {cs : ByteArray} {cl : List C} {u : Value} (h : Box w (.mk ck cn cs cl) u W) :
    W.cell? ⟨w.heap.size, 0, none⟩ = some (.int .i64 ck) ∧ W.cell? ⟨w.heap.size, 1, none⟩ = some (.int .i64 cn) ∧ W.cell? ⟨w.heap.size, 2, none⟩ = some (.string cs) ∧ W.cell? ⟨w.heap.size, 3, none⟩ = some u :=
  ⟨h.cell 0, h.cell 1, h.cell 2, h.cell 3⟩

set_option maxHeartbeats 4000000 in
theorem commit34 {w0 w : World} {sb mb bt bl b : Nat} {fv : Value} {d : L6.D} {st : Sf} (h : SfAt w0 w sb mb fv bt bl b d st) (hids : ∀ id ∈ st.fresh, id.size ≤ maxLen) (hn : st.fresh.length ≤ 3900)
    (ck cn : Int) (cs : ByteArray) (cl : List C) (u : Value) (dd : Nat) (hc : LNF 0 w w.heap.size dd u cl) (hwf : Wf (.mk ck cn cs cl)) (hcnt : L4.cntC (.mk ck cn cs cl) ≤ 1000)
    (hs : ∀ s ∈ encs st, s.size ≤ 9223372036854775807) (hlen : okC 16 (batC (.mk ck cn cs cl) (encs st)) = true → (encC 16 (batC (.mk ck cn cs cl) (encs st))).length ≤ 1000000)
    (hw : d.W.length + 4096 ≤ 1000000) (hct : st.t.count < 1000000) :
    Calls Tryz.prog 34 #[.pointer (some ⟨sb, 0, none⟩), .agg #[.int .i64 ck, .int .i64 cn, .string cs, u]] w fun e w' =>
      ∃ fv', e = .returned (.int .i64 (comE st d (.mk ck cn cs cl))) ∧ SfAt w0 w' sb mb fv' bt bl b (comD st d (.mk ck cn cs cl)) (comSt st d (.mk ck cn cs cl)) ∧ Stand w0 w w' (Mine sb mb fv) ∧ ∀ j, fv'.ownBlock = some j → fv.ownBlock = some j := by
  have hB := Box.new w (.mk ck cn cs cl) u
  have h1 := h.below hB.old
  have HE := Lib.hid (exists76 h1)
  have HM := Lib.hid (mayBegin77 dd ck cn cs cl u (w.alloc (.cells #[.int .i64 ck, .int .i64 cn, .string cs, u] 38)) (hc.lat.step hB.old))
  have HST := Lib.hid fun w2 (hb : Below w.heap.size w w2) => store78 (h.below hb) hids hn ck cn cs cl u dd (lnf_step hc hb) hwf hcnt hs hlen hw hct
  have HRM := Lib.hid fun w2 D' T' (h2 : SfAt w0 w2 sb mb fv bt bl b D' { st with t := T' }) => remove79 h2 hids (show st.fresh.length ≤ 1000000 by omega)
  have HB := Lib.hid hB
  have HB0 := Lib.hid hB.old
  have H1 := Lib.hid h1
  have HSZ := Lib.hid h.old.size
  obtain ⟨A, cap, rfl⟩ := L6.row_slice h.fr
  have hlt : ¬ (4095 : Int) < (st.fresh.length : Int) := by omega
  have HMN : Hid (∀ k, Mine sb mb (.slice A st.fresh.length cap) k → w0.heap.size ≤ k) := fun k hk => (h.mine k hk).1
  obtain ⟨b0, b1, b2, b3⟩ := box_facts hB
  have HQ : Hid (Stand w0 w w (Mine sb mb (.slice A st.fresh.length cap))) := Stand.refl _ _ _
  unfold comE comD comSt comOK
  clear h h1 hB hids hc hwf hcnt hs hlen hw hct
  cases hok : (okC 16 (.mk ck cn cs cl) && decide (depC (.mk ck cn cs cl) ≤ 14)) with
  | false =>
    rw [hok] at HM
    simp only [Bool.false_eq_true, if_false]
    clear HST HRM hok
    go_enter Tryz.func34, Tryz.ntmps34
    go_wp2_with (go_at_call 76; refine HE.out.mono ?_; rintro e w' ⟨rfl, rfl⟩)
    refine HM.out.mono ?_
    rintro _ w2 ⟨rfl, hb2⟩
    have H2 := Lib.hid (H1.out.below hb2)
    have HS2 : Hid (Stand w0 w w2 (Mine sb mb (.slice A st.fresh.length cap))) := Stand.of_below ((HB.out.step hb2).old) HSZ.out _
    clear hb2
    go_wp2_with fail
    go_ret
    exact ⟨_, rfl, H2.out, HS2.out, fun j hj => hj⟩
  | true =>
    rw [hok] at HM
    simp only [if_true]
    clear hok
    obtain ⟨q, hq⟩ : ∃ q, stoE st d (.mk ck cn cs cl) = q := ⟨_, rfl⟩
    rw [hq] at HST ⊢
    clear hq
    generalize stoD st d (.mk ck cn cs cl) = D' at HST ⊢
    generalize stoT st d (.mk ck cn cs cl) = T' at HST ⊢
    by_cases hq0 : q = 0
    · subst hq0
      simp only [if_true]
      clear HRM
      go_enter Tryz.func34, Tryz.ntmps34
      go_wp2_with (go_at_call 76; refine HE.out.mono ?_; rintro e w' ⟨rfl, rfl⟩)
      refine HM.out.mono ?_
      rintro _ w2 ⟨rfl, hb2⟩
      have hx2 := HB.out.step hb2
      have h2 := H1.out.below hb2
      obtain ⟨e0, e1, e2, e3⟩ := box_facts hx2
      obtain ⟨-, -, r2, -⟩ := h2.cells
      have HST2 := Lib.hid (HST.out w2 hx2.old)
      have HS2 : Hid (Stand w0 w w2 (Mine sb mb (.slice A st.fresh.length cap))) := Stand.of_below hx2.old HSZ.out _
      clear hb2 hx2 h2 HST b0 b1 b2 b3 HM HE
      go_wp2_with fail
      refine HST2.out.mono ?_
      rintro _ w3 ⟨rfl, h3, hs3⟩
      have h4 := h3.cleared
      obtain ⟨-, -, p2, pf⟩ := h3.cells
      have pf2 := pf 2
      have H4 := Lib.hid h4.1
      have HS4 : Hid (Stand w0 w (w3.setCell ⟨sb, 2, none⟩ (.slice none 0 0)) (Mine sb mb (.slice A st.fresh.length cap))) := (HS2.out.trans (hs3 (Mine sb mb (.slice A st.fresh.length cap))) (fun k hk => .inl hk)).trans (Stand.of_turn h4.2 h3.old.size HMN.out) (fun k hk => .inl hk)
      clear h3 hs3 h4 HST2 HS2 pf e0 e1 e2 e3 r2
      go_wp2_with fail
      go_ret
      exact ⟨.slice none 0 0, rfl, H4.out, HS4.out, fun j hj => by simp [Value.ownBlock] at hj⟩
    · simp only [if_neg hq0]
      have t1 : (q != 0) = true := by simp [hq0]
      clear hq0
      go_enter Tryz.func34, Tryz.ntmps34
      go_wp2_with (go_at_call 76; refine HE.out.mono ?_; rintro e w' ⟨rfl, rfl⟩)
      refine HM.out.mono ?_
      rintro _ w2 ⟨rfl, hb2⟩
      have hx2 := HB.out.step hb2
      have h2 := H1.out.below hb2
      obtain ⟨e0, e1, e2, e3⟩ := box_facts hx2
      obtain ⟨-, -, r2, -⟩ := h2.cells
      have HST2 := Lib.hid (HST.out w2 hx2.old)
      have HS2 : Hid (Stand w0 w w2 (Mine sb mb (.slice A st.fresh.length cap))) := Stand.of_below hx2.old HSZ.out _
      clear hb2 hx2 h2 HST b0 b1 b2 b3 HM HE
      go_wp2_with fail
      refine HST2.out.mono ?_
      rintro _ w3 ⟨rfl, h3, hs3⟩
      have HR3 := Lib.hid (HRM.out w3 D' T' h3)
      have HS3 : Hid (Stand w0 w w3 (Mine sb mb (.slice A st.fresh.length cap)) ∧ w0.heap.size ≤ w3.heap.size) := ⟨HS2.out.trans (hs3 (Mine sb mb (.slice A st.fresh.length cap))) (fun k hk => .inl hk), h3.old.size⟩
      clear h3 hs3 HST2 HS2 HRM e0 e1 e2 e3 r2
      go_wp2_with fail
      refine HR3.out.mono ?_
      rintro _ w4 ⟨rfl, h4, ht4⟩
      have H4 := Lib.hid h4
      have HS4 : Hid (Stand w0 w w4 (Mine sb mb (.slice A st.fresh.length cap))) := HS3.out.1.trans (Stand.of_turn ht4 HS3.out.2 HMN.out) (fun k hk => .inl hk)
      clear h4 ht4 HR3 HS3
      go_wp2_with fail
      go_ret
      exact ⟨.slice none 0 0, rfl, H4.out, HS4.out, fun j hj => by simp [Value.ownBlock] at hj⟩
end Go.Proofs.YtjanddnlhaionaaGreatDoor
