/-
  Contract of Settle. No condition.
-/
import Derived.Test.YtjanddnlhaionaaGreatDoorL6G
namespace Go.Proofs.YtjanddnlhaionaaGreatDoor.L6
open Go.RowKit

def z65c : List Value := .int .i64 0 :: z64c
set_option maxRecDepth 100000 in
theorem zero74 : (∀ w, (zeroValue 146).run Tryz.prog w = .ok (.agg z65c.toArray) w) ∧ (Tryz.prog.info? 146).map (·.size) = some 65 :=
  zero_of_info (by kernel_rfl)
set_option maxRecDepth 100000 in
theorem penC_oneCell (p : Nat × ByteArray) : (penC p).toArray.all (·.oneCell') = true := by
  rw [Array.all_eq_true_iff_forall_mem]
  intro v hv
  have hv : v ∈ penC p := by simpa using hv
  rcases List.mem_cons.1 hv with rfl | hv
  · rfl
  · exact bytes_oneCell _ v hv

set_option maxRecDepth 100000 in
/-- No pending writes any more, with other words in the drum's own block. -/
theorem PIs.wipe {w w' : World} {F : Nat → Prop} {b : Nat} {d : D} {g c : Nat} {v : Value} (h : PIs w F b d g c v) (f : Int) (q : Bool)
    (hr : w'.heap[b]? = some (.cells #[.slice (some ⟨g, 0, none⟩) d.S.length c, .slice none 0 0, .int .i64 f, .bool q] 120 (0, 0))) (hk : ∀ k, k ≠ b → w'.heap[k]? = w.heap[k]?) : PIs w' F b ⟨d.S, [], f, q⟩ g c (.slice none 0 0) :=
  ⟨hr, row_keep h.o1 (fun k hk' => hk k (own_some hk' ▸ h.n1)), World.ownsRow_nil _ _ _ _, h.n1, by simp [Value.ownBlock], by simp [Value.ownBlock], h.fb, h.f1, by simp [Value.ownBlock]⟩

set_option maxRecDepth 100000 in
theorem Ok.ap {d : D} (h : Ok d) (f : Nat → Bool) (k : Nat) (hk : k ≤ d.W.length) : Ok { d with S := ap f d.S d.W k } :=
  ⟨by simpa [ap_length] using h.n1, by simpa [ap_length] using h.n2, ap_64 _ h.s64 h.w64 _ hk, fun p hp => by simpa [ap_length] using h.w64 p hp, h.f1, h.f2, h.g⟩

set_option maxRecDepth 100000 in
set_option maxHeartbeats 1000000 in
theorem settle21 {F : Nat → Prop} {b : Nat} {d : D} {w : World} (h : PAt w F b d) (hw : d.W.length ≤ 1000000) :
    Calls Tryz.prog 201 #[.pointer (some ⟨b, 0, none⟩)] w fun e w' => e = .returned (.int .i64 (settleE d)) ∧ PAt w' F b (settleD d) ∧ Turn F w w' := by
  have HE := Lib.hid (exists26 h)
  have HSP := Lib.hid (spend37 h)
  obtain ⟨r, hr⟩ : ∃ r, settleD d = r := ⟨_, rfl⟩
  obtain ⟨er, her⟩ : ∃ er, settleE d = er := ⟨_, rfl⟩
  rw [hr, her]
  have HR := Lib.hid hr
  have HER := Lib.hid her
  have HBW := Lib.hid (burn_W d)
  have HBS := Lib.hid (burn_S d)
  clear hr her h
  obtain ⟨d1, hd1⟩ : ∃ d1, burn d = d1 := ⟨_, rfl⟩
  rw [hd1] at HSP HBW HBS
  have HD1 := Lib.hid hd1
  clear hd1
  cases hq : d1.gone with
  | true =>
    rw [hq] at HSP
    have e1 : r = d1 := by rw [← HR.out]; simp [settleD, HD1.out, hq]
    have e2 : er = 9 := by rw [← HER.out]; simp [settleE, HD1.out, hq]
    subst e1 e2
    clear hq HR HER HD1 HBW HBS hw
    go_enter Tryz.func201, Tryz.ntmps201
    go_wp2_with (first | (go_at_call 80; refine HE.out.mono ?_; rintro e w' ⟨rfl, rfl⟩) | (go_at_call 213; refine HSP.out.mono ?_; rintro e w' ⟨rfl, hP, hT, -⟩))
    go_ret
    exact ⟨rfl, hP, hT⟩
  | false =>
    rw [hq] at HSP
    have HR1 : Hid (r = ⟨ap allF d1.S d1.W d1.W.length, [], d1.fuse, false⟩) := by
      unfold Hid
      rw [← HR.out, settleD, HD1.out, hq, HBS.out, HBW.out]
      simp [hq]
    have e2 : er = 0 := by rw [← HER.out]; simp [settleE, HD1.out, hq]
    subst e2
    have hw1 : d1.W.length ≤ 1000000 := by rw [HBW.out]; exact hw
    have HQ := Lib.hid hq
    clear hq HR HER HD1 HBW HBS hw
    go_enter Tryz.func201, Tryz.ntmps201
    go_wp2_with fail
    refine HE.out.mono ?_
    rintro e w' ⟨rfl, rfl⟩
    go_wp2_with fail
    refine HSP.out.mono ?_
    rintro e w1 ⟨rfl, hP, hT, -⟩
    obtain ⟨g, c, v, hpw⟩ := hP.pw
    have c1 := hpw.is.c1
    obtain ⟨a, cp, rfl⟩ := row_slice hpw.is.o2
    have HPW0 : Hid (PW w1 F b { d1 with S := ap allF d1.S d1.W 0 } g c (.slice a d1.W.length cp)) := hpw
    have HT0 := Lib.hid hT
    have hz := zero74.1
    have HZ : Hid (z65c.length = 65) := by unfold Hid; simp [z65c, z64c]
    generalize z65c = Z at hz HZ
    have HI74 := Lib.hid size74
    have HOK := Lib.hid hpw.ok
    obtain ⟨m, hm⟩ : ∃ m, d1.W.length = m := ⟨_, rfl⟩
    rw [hm] at c1 HPW0 HR1 hw1
    have HM := Lib.hid hm
    clear hP hT hpw hm HSP HE
    go_wp2
    clear c1
    go_loopw [16] (fun s16 wr => ∃ k : Nat, k ≤ m ∧ s16 = .int .i64 k ∧ Hid (PW wr F b { d1 with S := ap allF d1.S d1.W k } g c (.slice a m cp)) ∧ Hid (Turn F w wr)) (fun s16 _ => m - (intOf s16).toNat)
    case atStart => exact ⟨0, by omega, rfl, HPW0, HT0⟩
    case round =>
      obtain ⟨k, hk, rfl, HP, HT⟩ := hrel
      by_cases hlt : k < m
      · have hk' : k < d1.W.length := by rw [HM.out]; exact hlt
        obtain ⟨gp, cp', hv⟩ := row_some HP.out.is.o2 (by show 0 < d1.W.length; omega)
        injection hv with hv1 hv2 hv3
        subst hv1
        have HPEN : Hid (wr.rangeAt gp (k * 65) (penC (pw d1.W k))) := HP.out.is.pen HM.out.symm HP.out.ok hk'
        have hp64 := HOK.out.w64 _ (pw_mem hk')
        have hset : ({ d1 with S := ap allF d1.S d1.W (k + 1) } : D) = { ({ d1 with S := ap allF d1.S d1.W k } : D) with S := (ap allF d1.S d1.W k).set (pw d1.W k).1 (pw d1.W k).2 } := by
          show (⟨ap allF d1.S d1.W (k + 1), _, _, _⟩ : D) = _
          rw [L6.ap, if_pos (show allF k = true from rfl)]
        have hlen : (pw d1.W k).1 < ({ d1 with S := ap allF d1.S d1.W k } : D).S.length := by
          show _ < (ap allF d1.S d1.W k).length
          rw [ap_length]; exact hp64.1
        have hb2 : Below wr.heap.size wr ((wr.alloc (.cells Z.toArray 146)).setRow wr.heap.size (penC (pw d1.W k)).toArray) := below_setRow ((Below.refl _ _).alloc (Nat.le_refl _) _) (Nat.le_refl _) _
        have HST := Lib.hid (store34 (HP.out.below hb2) (pw d1.W k) hlen hp64.2)
        have HT2 : Hid (Turn F w ((wr.alloc (.cells Z.toArray 146)).setRow wr.heap.size (penC (pw d1.W k)).toArray)) := HT.out.trans (Turn.of_below (F := F) hb2) (fun i h => .inl h)
        have HL : Hid ((penC (pw d1.W k)).length = 65) := pens_len HOK.out.w64 _ (pw_mem hk')
        have H1 := Lib.hid (penC_oneCell (pw d1.W k))
        have HG2 : Hid (((wr.alloc (.cells Z.toArray 146)).setRow wr.heap.size (penC (pw d1.W k)).toArray).heap[wr.heap.size]? = some (.cells (penC (pw d1.W k)).toArray 146 (0, 0))) := setRow_heap _ _ _ _ _ _ (heap_alloc_new _ _)
        have HSET := Lib.hid hset
        generalize penC (pw d1.W k) = X at HPEN HST HT2 HL H1 HG2
        clear hset hlen hb2 hp64 hk' hv2 hv3
        go_wp2_with (first | (refine wpList_load_mid rfl 146 _ rfl gp (k * 65) rfl X _ HPEN.out Tryz.underlying146 rfl (by rw [HL.out]; exact HI74.out) ?_) | (refine wpList_store_row rfl 146 _ _ rfl wr.heap.size _ rfl rfl 146 _ (heap_alloc_new _ _) (by simpa [HL.out] using HI74.out) (by simp [HL.out, HZ.out]) H1.out ?_) | (refine wpList_load_row rfl 146 _ rfl wr.heap.size rfl 146 _ (0, 0) _ HG2.out Tryz.underlying146 rfl (by simpa [HL.out] using HI74.out) ?_) | (go_at_call 82; refine HST.out.mono ?_; rintro e w5 ⟨rfl, hP5, hT5⟩; rw [← HSET.out] at hP5; have HP5 := Lib.hid hP5; have HT5 := Lib.hid (HT2.out.trans hT5 (fun i h => .inl h)); clear hP5 hT5))
        go_roundw
        case rel => exact ⟨k + 1, by omega, by go_num, HP5, HT5⟩
        case measure => simp [intOf]; omega
      · have hkm : k = m := by omega
        subst hkm
        have c1 := HP.out.is.c1
        have f1 := HP.out.is.fr 1
        have HFIN : Hid (PAt (wr.setCell ⟨b, 1, none⟩ (.slice none 0 0)) F b r ∧ Turn F w (wr.setCell ⟨b, 1, none⟩ (.slice none 0 0))) := by
          refine ⟨⟨⟨g, c, .slice none 0 0, ?_⟩, ?_, fun i hi => by simpa [World.setCell] using HP.out.lt i hi⟩, HT.out.setCell _ _ (.inl HP.out.is.fb)⟩
          · rw [HR1.out]
            refine HP.out.is.wipe d1.fuse false ?_ (fun i hi => Below.heap_setCell _ _ _ _ hi)
            rw [heap_setCell_same _ _ _ _ _ _ HP.out.is.row]
            simp [HQ.out]
          · rw [HR1.out]
            have ho := HP.out.ok
            exact ⟨ho.n1, ho.n2, ho.s64, fun p hp => by simp at hp, ho.f1, ho.f2, fun h => by cases h⟩
        clear HP HT hlt
        go_wp2
        go_ret
        exact ⟨rfl, HFIN.out.1, HFIN.out.2⟩
end Go.Proofs.YtjanddnlhaionaaGreatDoor.L6
