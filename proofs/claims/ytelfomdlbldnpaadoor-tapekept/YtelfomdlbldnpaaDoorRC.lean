/-
  Contracts of the document's Settle and Crash. No condition.
-/
import Derived.Test.YtelfomdlbldnpaaDoorRB
namespace Go.Proofs.YtelfomdlbldnpaaDoor
open Go.RowKit

theorem strs_set (S : List ByteArray) (k : Nat) (s : ByteArray) : strs (S.set k s) = (strs S).set k (.string s) := by simp [strs, List.map_set]
/-- A sector set, by a store into one cell. -/
theorem RW.setS {w : World} {F : Nat → Prop} {b : Nat} {d : D} {g n c : Nat} {v2 : Value} (h : RW w F b d (.slice (some ⟨g, 0, none⟩) n c) v2) (hn : n = d.S.length) (k : Nat) (s : ByteArray) (hs : s.size = 64) :
    RW (w.setCell ⟨g, k, none⟩ (.string s)) F b { d with S := d.S.set k s } (.slice (some ⟨g, 0, none⟩) n c) v2 ∧ Turn F w (w.setCell ⟨g, k, none⟩ (.string s)) := by
  subst hn
  have hl : ({ d with S := d.S.set k s } : D).S.length = d.S.length := by simp
  have hst := h.is.o1.stored k (.string s)
  have hgb : b ≠ g := fun e => h.is.n1 (by rw [e]; rfl)
  refine ⟨⟨⟨?_, ?_, row_keep h.is.o2 (fun i hi => Below.heap_setCell _ _ _ _ (fun e => h.is.n12 g rfl (by rw [hi, e]))), h.is.n1, h.is.n2, h.is.n12, h.is.fb, h.is.f1, h.is.f2⟩, ?_, fun i hi => by simpa [World.setCell] using h.lt i hi⟩, (Turn.refl F w).setCell _ _ (.inl (h.is.f1 g rfl))⟩
  · rw [Below.heap_setCell _ _ _ _ hgb]; exact h.is.row
  · rw [hl]
    show World.ownsRow _ 0 9 1 _ _ (strs (d.S.set k s))
    rw [strs_set]; exact hst.1
  · refine ⟨by simpa using h.ok.n1, by simpa using h.ok.n2, fun x hx => ?_, fun x hx => by simpa using h.ok.w64 x hx, h.ok.f1, h.ok.f2, h.ok.g⟩
    rcases List.mem_or_eq_of_mem_set hx with h2 | h2
    · exact h.ok.s64 x h2
    · rw [h2]; exact hs
theorem RW.drew {w : World} {F : Nat → Prop} {b : Nat} {d : D} {v1 v2 : Value} (h : RW w F b d v1 v2) : RW w.drew F b d v1 v2 := ⟨h.is.keep (fun _ _ => rfl), h.ok, h.lt⟩
theorem RIs.wipe {w w' : World} {F : Nat → Prop} {b : Nat} {d : D} {v1 v2 : Value} (h : RIs w F b d v1 v2) (f : Int) (q : Bool)
    (hr : w'.heap[b]? = some (.cells #[v1, .slice none 0 0, .int .i64 f, .bool q] 69 (0, 0))) (hk : ∀ k, k ≠ b → w'.heap[k]? = w.heap[k]?) : RIs w' F b ⟨d.S, [], f, q⟩ v1 (.slice none 0 0) :=
  ⟨hr, row_keep h.o1 (fun k hk' => hk k (own_ne h.n1 hk')), World.ownsRow_nil _ _ _ _, h.n1, by simp [Value.ownBlock], fun _ _ => by simp [Value.ownBlock], h.fb, h.f1, by simp [Value.ownBlock]⟩

set_option maxRecDepth 100000 in
set_option maxHeartbeats 1000000 in
theorem refSettle27 {F : Nat → Prop} {b : Nat} {d : D} {w : World} (h : RAt w F b d) (hw : d.W.length ≤ 1000000) :
    Calls Tryd.prog 50 #[.pointer (some ⟨b, 0, none⟩)] w fun e w' => e = .returned (.int .i64 (settleE d)) ∧ RAt w' F b (settleD d) ∧ Turn F w w' := by
  obtain ⟨v1, v2, h⟩ := h
  have HSP := Lib.hid (burnt40 h)
  obtain ⟨r, hr⟩ : ∃ r, settleD d = r := ⟨_, rfl⟩
  obtain ⟨er, her⟩ : ∃ er, settleE d = er := ⟨_, rfl⟩
  rw [hr, her]
  have HR := Lib.hid hr
  have HER := Lib.hid her
  have HBW := Lib.hid (burn_W d)
  have HBS := Lib.hid (burn_S d)
  clear hr her h
  obtain ⟨d1, hd1⟩ : ∃ d1, burn d = d1 := ⟨_, rfl⟩
  rw [hd1] at HSP HBW HBS
  have HD1 := Lib.hid hd1
  clear hd1
  cases hq : d1.gone with
  | true =>
    rw [hq] at HSP
    have e1 : r = d1 := by rw [← HR.out]; simp [settleD, HD1.out, hq]
    have e2 : er = 9 := by rw [← HER.out]; simp [settleE, HD1.out, hq]
    subst e1 e2
    clear hq HR HER HD1 HBW HBS hw
    go_enter Tryd.func50, Tryd.ntmps50
    go_wp2_with (go_at_call 55; refine HSP.out.mono ?_; rintro e w' ⟨rfl, hP, hT, -⟩)
    go_ret
    exact ⟨rfl, ⟨_, _, hP⟩, hT⟩
  | false =>
    rw [hq] at HSP
    have HR1 : Hid (r = ⟨ap allF d1.S d1.W d1.W.length, [], d1.fuse, false⟩) := by
      unfold Hid
      rw [← HR.out, settleD, HD1.out, hq, HBS.out, HBW.out]
      simp [hq]
    have e2 : er = 0 := by rw [← HER.out]; simp [settleE, HD1.out, hq]
    subst e2
    have hw1 : d1.W.length ≤ 1000000 := by rw [HBW.out]; exact hw
    have HQ := Lib.hid hq
    clear hq HR HER HD1 HBW HBS hw
    go_enter Tryd.func50, Tryd.ntmps50
    go_wp2_with fail
    refine HSP.out.mono ?_
    rintro e w1 ⟨rfl, hP, hT, -⟩
    obtain ⟨g, c, rfl⟩ := row_some hP.is.o1 hP.ok.n1
    obtain ⟨a, cp, rfl⟩ := row_slice hP.is.o2
    have HP0 : Hid (RW w1 F b { d1 with S := ap allF d1.S d1.W 0 } (.slice (some ⟨g, 0, none⟩) d1.S.length c) (.slice a d1.W.length cp)) := hP
    have HT0 := Lib.hid hT
    have HOK := Lib.hid hP.ok
    have hn2 := hP.ok.n2
    obtain ⟨n, hn⟩ : ∃ n, d1.S.length = n := ⟨_, rfl⟩
    obtain ⟨m, hm⟩ : ∃ m, d1.W.length = m := ⟨_, rfl⟩
    rw [hm, hn] at HP0
    rw [hm] at HR1 hw1
    rw [hn] at hn2
    have HM := Lib.hid hm
    have HN := Lib.hid hn
    clear hP hT hm hn HSP
    go_wp2
    go_loopw [3] (fun s3 wr => ∃ k : Nat, k ≤ m ∧ s3 = .int .i64 k ∧ Hid (RW wr F b { d1 with S := ap allF d1.S d1.W k } (.slice (some ⟨g, 0, none⟩) n c) (.slice a m cp)) ∧ Hid (Turn F w wr)) (fun s3 _ => m - (intOf s3).toNat)
    case atStart => exact ⟨0, by omega, rfl, HP0, HT0⟩
    case round =>
      obtain ⟨k, hk, rfl, HP, HT⟩ := hrel
      have c1 := HP.out.is.c1
      by_cases hlt : k < m
      · have hk' : k < d1.W.length := by rw [HM.out]; exact hlt
        obtain ⟨gp, cp', hv⟩ := row_some HP.out.is.o2 (by show 0 < d1.W.length; omega)
        injection hv with hv1 hv2 hv3
        subst hv1
        have c0 := HP.out.is.c0
        obtain ⟨p0, p1⟩ := HP.out.is.pen HM.out.symm hk'
        have hp64 := HOK.out.w64 _ (pw_mem hk')
        have hset : ({ d1 with S := ap allF d1.S d1.W (k + 1) } : D) = { ({ d1 with S := ap allF d1.S d1.W k } : D) with S := (ap allF d1.S d1.W k).set (pw d1.W k).1 (pw d1.W k).2 } := by
          show (⟨ap allF d1.S d1.W (k + 1), _, _, _⟩ : D) = _
          rw [YtelfomdlbldnpaaDoor.ap, if_pos (show allF k = true from rfl)]
        have hn' : n = ({ d1 with S := ap allF d1.S d1.W k } : D).S.length := by
          show n = (ap allF d1.S d1.W k).length
          rw [ap_length]; exact HN.out.symm
        have hfin := HP.out.drew.setS hn' (pw d1.W k).1 (pw d1.W k).2 hp64.2
        rw [← hset] at hfin
        have hpn : (pw d1.W k).1 < n := by rw [← HN.out]; exact hp64.1
        have q0 := HP.out.is.sec hn' (i := (pw d1.W k).1) (by show _ < (ap allF d1.S d1.W k).length; rw [ap_length]; exact hp64.1)
        have hfr : wr.frozen? ⟨g, (pw d1.W k).1, none⟩ = false := by
          have h1 := HP.out.is.o1
          have e : ({ d1 with S := ap allF d1.S d1.W k } : D).S.length = n := hn'.symm
          rw [e] at h1
          exact h1.frozenAt _
        generalize hx : ({ d1 with S := ap allF d1.S d1.W k } : D).S.getD (pw d1.W k).1 ByteArray.empty = x at q0
        have HFIN : Hid (RW (wr.drew.setCell ⟨g, (pw d1.W k).1, none⟩ (.string (pw d1.W k).2)) F b { d1 with S := ap allF d1.S d1.W (k + 1) } (.slice (some ⟨g, 0, none⟩) n c) (.slice (some ⟨gp, 0, none⟩) m cp) ∧ Turn F w (wr.drew.setCell ⟨g, (pw d1.W k).1, none⟩ (.string (pw d1.W k).2))) :=
          ⟨hfin.1, HT.out.trans (G := F) ⟨hfin.2.os, hfin.2.tape, hfin.2.output, hfin.2.size, hfin.2.block⟩ (fun i h => .inl h)⟩
        obtain ⟨⟨pi, ps⟩, hpw⟩ : ∃ p, pw d1.W k = p := ⟨_, rfl⟩
        rw [hpw] at p0 p1 q0 hfr HFIN hpn
        have p0 : wr.cell? ⟨gp, k * 2, none⟩ = some (.int .i64 (pi : Int)) := p0
        have p1 : wr.cell? ⟨gp, k * 2 + 1, none⟩ = some (.string ps) := p1
        have q0 : wr.cell? ⟨g, pi, none⟩ = some (.string x) := q0
        have hpn : pi < n := hpn
        have HFIN : Hid (RW (wr.drew.setCell ⟨g, pi, none⟩ (.string ps)) F b { d1 with S := ap allF d1.S d1.W (k + 1) } (.slice (some ⟨g, 0, none⟩) n c) (.slice (some ⟨gp, 0, none⟩) m cp) ∧ Turn F w (wr.drew.setCell ⟨g, pi, none⟩ (.string ps))) := HFIN
        have hpn' : (pi : Int) < (n : Int) := by omega
        clear hx hfin hn' hset hp64 hk' hv2 hv3 hpw HP HT
        go_wp2_with fail
        go_still_tail 21, (by kernel_rfl)
        go_wp2
        go_roundw
        case rel => exact ⟨k + 1, by omega, by go_num, HFIN.out.1, HFIN.out.2⟩
        case measure => simp [intOf]; omega
      · have hkm : k = m := by omega
        subst hkm
        have f1 := HP.out.is.fr 1
        have HFIN : Hid (RAt (wr.setCell ⟨b, 1, none⟩ (.slice none 0 0)) F b r ∧ Turn F w (wr.setCell ⟨b, 1, none⟩ (.slice none 0 0))) := by
          refine ⟨⟨.slice (some ⟨g, 0, none⟩) n c, .slice none 0 0, ?_, ?_, fun i hi => by simpa [World.setCell] using HP.out.lt i hi⟩, HT.out.setCell _ _ (.inl HP.out.is.fb)⟩
          · rw [HR1.out]
            refine HP.out.is.wipe d1.fuse false ?_ (fun i hi => Below.heap_setCell _ _ _ _ hi)
            rw [heap_setCell_same _ _ _ _ _ _ HP.out.is.row]
            simp [HQ.out]
          · rw [HR1.out]
            have ho := HP.out.ok
            exact ⟨ho.n1, ho.n2, ho.s64, fun p hp => by simp at hp, ho.f1, ho.f2, fun h => by cases h⟩
        clear HP HT hlt
        go_wp2
        go_ret
        exact ⟨rfl, HFIN.out.1, HFIN.out.2⟩

/-- The sectors, when k pending writes are done and of the next one's list i words were looked at. -/
def apI (l : List Int) (S : List ByteArray) (W : List (Nat × ByteArray)) (k i : Nat) : List ByteArray :=
  if (k : Int) ∈ l.take i then (ap (keepF l) S W k).set (pw W k).1 (pw W k).2 else ap (keepF l) S W k
theorem apI_zero (l : List Int) (S : List ByteArray) (W : List (Nat × ByteArray)) (k : Nat) : apI l S W k 0 = ap (keepF l) S W k := by simp [apI]
theorem apI_end (l : List Int) (S : List ByteArray) (W : List (Nat × ByteArray)) (k : Nat) : apI l S W k l.length = ap (keepF l) S W (k + 1) := by
  unfold apI
  rw [List.take_length, ap]
  by_cases h : (k : Int) ∈ l
  · rw [if_pos h, if_pos (by unfold keepF; exact decide_eq_true h)]
  · rw [if_neg h, if_neg (by unfold keepF; simpa using h)]
theorem apI_hit (l : List Int) (S : List ByteArray) (W : List (Nat × ByteArray)) (k i : Nat) (hi : i < l.length) (he : l[i] = (k : Int)) : apI l S W k (i + 1) = (apI l S W k i).set (pw W k).1 (pw W k).2 := by
  unfold apI
  rw [if_pos ((mem_take_succ l i hi _).2 (.inr he.symm))]
  split
  · rw [List.set_set]
  · rfl
theorem apI_miss (l : List Int) (S : List ByteArray) (W : List (Nat × ByteArray)) (k i : Nat) (hi : i < l.length) (he : ¬ l[i] = (k : Int)) : apI l S W k (i + 1) = apI l S W k i := by
  unfold apI
  have : (k : Int) ∈ l.take (i + 1) ↔ (k : Int) ∈ l.take i := by
    rw [mem_take_succ l i hi]
    exact ⟨fun h => h.elim id (fun e => absurd e.symm he), .inl⟩
  simp only [this]
theorem apI_length (l : List Int) (S : List ByteArray) (W : List (Nat × ByteArray)) (k i : Nat) : (apI l S W k i).length = S.length := by
  unfold apI
  split
  · rw [List.length_set, ap_length]
  · rw [ap_length]

set_option maxRecDepth 100000 in
set_option maxHeartbeats 2000000 in
theorem refCrash28 {F : Nat → Prop} {b : Nat} {d : D} {w : World} (h : RAt w F b d) (hw : d.W.length ≤ 1000000) (B : Nat) (hB : B ≤ w.heap.size) (hF : ∀ k, F k → B ≤ k) (l : List Int) (lv : Value) (hl : IntsAt w B lv l) (hll : l.length ≤ 1000000) :
    Calls Tryd.prog 32 #[.pointer (some ⟨b, 0, none⟩), lv] w fun e w' => e = .returned (.tuple #[]) ∧ RAt w' F b (crashD d l) ∧ Turn F w w' := by
  obtain ⟨v1, v2, h⟩ := h
  obtain ⟨r, hr⟩ : ∃ r, crashD d l = r := ⟨_, rfl⟩
  rw [hr]
  have HR := Lib.hid hr
  have HL := Lib.hid hl
  have HF := Lib.hid hF
  obtain ⟨lA, lC, rfl, -⟩ := hl
  obtain ⟨g, c, rfl⟩ := row_some h.is.o1 h.ok.n1
  obtain ⟨a, cp, rfl⟩ := row_slice h.is.o2
  have HP0 : Hid (RW w F b { d with S := ap (keepF l) d.S d.W 0 } (.slice (some ⟨g, 0, none⟩) d.S.length c) (.slice a d.W.length cp)) := h
  have HOK := Lib.hid h.ok
  have hn2 := h.ok.n2
  obtain ⟨n, hn⟩ : ∃ n, d.S.length = n := ⟨_, rfl⟩
  obtain ⟨m, hm⟩ : ∃ m, d.W.length = m := ⟨_, rfl⟩
  obtain ⟨ln, hln⟩ : ∃ ln, l.length = ln := ⟨_, rfl⟩
  rw [hm, hn] at HP0
  rw [hm] at hw
  rw [hn] at hn2
  rw [hln] at hll
  rw [hln]
  have HM := Lib.hid hm
  have HN := Lib.hid hn
  have HLN := Lib.hid hln
  clear hm hn hln hr h hF
  go_enter Tryd.func32, Tryd.ntmps32
  go_wp2
  go_loopw [4] (fun s4 wr => ∃ k : Nat, k ≤ m ∧ s4 = .int .i64 k ∧ Hid (RW wr F b { d with S := ap (keepF l) d.S d.W k } (.slice (some ⟨g, 0, none⟩) n c) (.slice a m cp)) ∧ Hid (Turn F w wr)) (fun s4 _ => m - (intOf s4).toNat)
  case atStart => exact ⟨0, by omega, rfl, HP0, Turn.refl _ _⟩
  case round =>
    obtain ⟨k, hk, rfl, HP, HT⟩ := hrel
    have c1 := HP.out.is.c1
    by_cases hlt : k < m
    · have HPI : Hid (RW wr F b { d with S := apI l d.S d.W k 0 } (.slice (some ⟨g, 0, none⟩) n c) (.slice a m cp)) := by unfold Hid; rw [apI_zero]; exact HP.out
      have HT1 := HT
      clear HP HT
      go_wp2
      clear c1
      go_loopw [5] (fun s5 wq => ∃ i : Nat, i ≤ ln ∧ s5 = .int .i64 i ∧ Hid (RW wq F b { d with S := apI l d.S d.W k i } (.slice (some ⟨g, 0, none⟩) n c) (.slice a m cp)) ∧ Hid (Turn F w wq)) (fun s5 _ => ln - (intOf s5).toNat)
      case atStart => exact ⟨0, by omega, rfl, HPI, HT1⟩
      case round =>
        obtain ⟨i, hi, rfl, HP, HT⟩ := hrel
        by_cases hlti : i < ln
        · have hil : i < l.length := by rw [HLN.out]; exact hlti
          have hbl : Below B w wr := HT.out.below B hB HF.out
          obtain ⟨a', c', hv, hcells⟩ := HL.out.below hbl
          injection hv with e1 e2 e3
          subst e1
          obtain ⟨bb, oo, rfl, hblt, hcc⟩ := hcells (by omega)
          have hci := hcc i hil
          have HHIT := Lib.hid (apI_hit l d.S d.W k i hil)
          have HMISS := Lib.hid (apI_miss l d.S d.W k i hil)
          obtain ⟨x, hx⟩ : ∃ x, l[i] = x := ⟨_, rfl⟩
          rw [hx] at hci HHIT HMISS
          clear hcc hcells e2 e3 hx hbl
          by_cases hxk : x = (k : Int)
          · subst hxk
            have hk' : k < d.W.length := by rw [HM.out]; exact hlt
            obtain ⟨gp, cp', hv⟩ := row_some HP.out.is.o2 (by show 0 < d.W.length; omega)
            injection hv with hv1 hv2 hv3
            subst hv1
            have c0 := HP.out.is.c0
            have c1 := HP.out.is.c1
            obtain ⟨p0, p1⟩ := HP.out.is.pen HM.out.symm hk'
            have hp64 := HOK.out.w64 _ (pw_mem hk')
            have hset : ({ d with S := apI l d.S d.W k (i + 1) } : D) = { ({ d with S := apI l d.S d.W k i } : D) with S := (apI l d.S d.W k i).set (pw d.W k).1 (pw d.W k).2 } := by
              show (⟨apI l d.S d.W k (i + 1), _, _, _⟩ : D) = _
              rw [HHIT.out rfl]
            have hn' : n = ({ d with S := apI l d.S d.W k i } : D).S.length := by
              show n = (apI l d.S d.W k i).length
              rw [apI_length]; exact HN.out.symm
            have hfin := HP.out.drew.setS hn' (pw d.W k).1 (pw d.W k).2 hp64.2
            rw [← hset] at hfin
            have hpn : (pw d.W k).1 < n := by rw [← HN.out]; exact hp64.1
            have q0 := HP.out.is.sec hn' (i := (pw d.W k).1) (by show _ < (apI l d.S d.W k i).length; rw [apI_length]; exact hp64.1)
            have hfr : wr.frozen? ⟨g, (pw d.W k).1, none⟩ = false := by
              have h1 := HP.out.is.o1
              have e : ({ d with S := apI l d.S d.W k i } : D).S.length = n := hn'.symm
              rw [e] at h1
              exact h1.frozenAt _
            generalize hx : ({ d with S := apI l d.S d.W k i } : D).S.getD (pw d.W k).1 ByteArray.empty = x at q0
            have HFIN : Hid (RW (wr.drew.setCell ⟨g, (pw d.W k).1, none⟩ (.string (pw d.W k).2)) F b { d with S := apI l d.S d.W k (i + 1) } (.slice (some ⟨g, 0, none⟩) n c) (.slice (some ⟨gp, 0, none⟩) m cp) ∧ Turn F w (wr.drew.setCell ⟨g, (pw d.W k).1, none⟩ (.string (pw d.W k).2))) :=
              ⟨hfin.1, HT.out.trans (G := F) ⟨hfin.2.os, hfin.2.tape, hfin.2.output, hfin.2.size, hfin.2.block⟩ (fun i h => .inl h)⟩
            obtain ⟨⟨pi, ps⟩, hpw⟩ : ∃ p, pw d.W k = p := ⟨_, rfl⟩
            rw [hpw] at p0 p1 q0 hfr HFIN hpn
            have p0 : wr.cell? ⟨gp, k * 2, none⟩ = some (.int .i64 (pi : Int)) := p0
            have p1 : wr.cell? ⟨gp, k * 2 + 1, none⟩ = some (.string ps) := p1
            have q0 : wr.cell? ⟨g, pi, none⟩ = some (.string x) := q0
            have hpn : pi < n := hpn
            have HFIN : Hid (RW (wr.drew.setCell ⟨g, pi, none⟩ (.string ps)) F b { d with S := apI l d.S d.W k (i + 1) } (.slice (some ⟨g, 0, none⟩) n c) (.slice (some ⟨gp, 0, none⟩) m cp) ∧ Turn F w (wr.drew.setCell ⟨g, pi, none⟩ (.string ps))) := HFIN
            have hpn' : (pi : Int) < (n : Int) := by omega
            clear hx hfin hn' hset hp64 hk' hv2 hv3 hpw HP HT HHIT HMISS hil HPI
            go_wp2_with fail
            go_still_tail 21, (by kernel_rfl)
            go_wp2
            go_roundw
            case rel => exact ⟨i + 1, by omega, by go_num, HFIN.out.1, HFIN.out.2⟩
            case measure => simp [intOf]; omega
          · have tx : (x == (k : Int)) = false := by simpa using hxk
            have HP2 : Hid (RW wr F b { d with S := apI l d.S d.W k (i + 1) } (.slice (some ⟨g, 0, none⟩) n c) (.slice a m cp)) := by unfold Hid; rw [HMISS.out hxk]; exact HP.out
            clear HHIT HMISS hxk HP hil
            go_wp2
            go_roundw
            case rel => exact ⟨i + 1, by omega, by go_num, HP2, HT⟩
            case measure => simp [intOf]; omega
        · have him : i = ln := by omega
          subst him
          have HP2 : Hid (RW wr F b { d with S := ap (keepF l) d.S d.W (k + 1) } (.slice (some ⟨g, 0, none⟩) n c) (.slice a m cp)) := by unfold Hid; rw [← apI_end, HLN.out]; exact HP.out
          clear HP
          go_wp2
          go_roundw
          case rel => exact ⟨k + 1, by omega, by go_num, HP2, HT⟩
          case measure => simp [intOf]; omega
    · have hkm : k = m := by omega
      subst hkm
      have c2 := HP.out.is.c2
      have c3 := HP.out.is.c3
      have f1 := HP.out.is.fr 1
      have f2 := HP.out.is.fr 2
      have f3 := HP.out.is.fr 3
      have HFIN : Hid (RAt (((wr.setCell ⟨b, 1, none⟩ (.slice none 0 0)).setCell ⟨b, 2, none⟩ (.int .i64 (-1))).setCell ⟨b, 3, none⟩ (.bool false)) F b r ∧ Turn F w (((wr.setCell ⟨b, 1, none⟩ (.slice none 0 0)).setCell ⟨b, 2, none⟩ (.int .i64 (-1))).setCell ⟨b, 3, none⟩ (.bool false))) := by
        have g1 := heap_setCell_same wr b 1 _ _ (.slice none 0 0) HP.out.is.row
        have g2 := heap_setCell_same _ b 2 _ _ (.int .i64 (-1)) g1
        have g3 := heap_setCell_same _ b 3 _ _ (.bool false) g2
        have er : r = ⟨ap (keepF l) d.S d.W k, [], -1, false⟩ := by rw [← HR.out, crashD, HM.out]
        refine ⟨⟨.slice (some ⟨g, 0, none⟩) n c, .slice none 0 0, ?_, ?_, fun i hi => by simpa [World.setCell] using HP.out.lt i hi⟩, ((HT.out.setCell _ _ (.inl HP.out.is.fb)).setCell _ _ (.inl HP.out.is.fb)).setCell _ _ (.inl HP.out.is.fb)⟩
        · rw [er]
          refine HP.out.is.wipe (-1) false ?_ (fun i hi => by rw [Below.heap_setCell _ _ _ _ hi, Below.heap_setCell _ _ _ _ hi, Below.heap_setCell _ _ _ _ hi])
          rw [g3]; rfl
        · rw [er]
          have ho := HP.out.ok
          exact ⟨ho.n1, ho.n2, ho.s64, fun p hp => by simp at hp, by simp, by simp, fun h => by cases h⟩
      clear HP HT hlt
      go_wp2
      go_end0
      exact ⟨rfl, HFIN.out.1, HFIN.out.2⟩
end Go.Proofs.YtelfomdlbldnpaaDoor
