/-
  Contract of (sector).text. No condition.
-/
import Derived.Test.YtjanddnlhaionaaGreatDoorL6YA
import Derived.Test.YtjanddnlhaionaaGreatDoorL6XB
namespace Go.Proofs.YtjanddnlhaionaaGreatDoor.L6
open Go.RowKit

set_option maxRecDepth 100000 in
theorem bytesV_append (a b : List UInt8) : bytesV (a ++ b) = bytesV a ++ bytesV b := by simp [bytesV]
set_option maxRecDepth 100000 in
theorem bytesV_take (a : List UInt8) (n : Nat) : (bytesV a).take n = bytesV (a.take n) := by simp [bytesV, List.map_take]
set_option maxRecDepth 100000 in
theorem bytesV_drop (a : List UInt8) (n : Nat) : (bytesV a).drop n = bytesV (a.drop n) := by simp [bytesV, List.map_drop]
set_option maxRecDepth 100000 in
theorem lay_in (A X : List UInt8) (m : Nat) (o n : Nat) (ho : o = A.length) (hn : n = X.length) :
    (bytesV (A ++ List.replicate m 0)).take o ++ bytesV X ++ (bytesV (A ++ List.replicate m 0)).drop (o + n) = bytesV ((A ++ X) ++ List.replicate (m - n) 0) := by
  subst ho hn
  rw [bytesV_take, bytesV_drop, ← bytesV_append, ← bytesV_append, List.take_left, ← List.drop_drop, List.drop_left, List.drop_replicate]
set_option maxRecDepth 100000 in
theorem zero96' : (∀ w, (zeroValue 143).run Tryz.prog w = .ok (.agg z64c.toArray) w) ∧ (Tryz.prog.info? 143).map (·.size) = some 64 :=
  zero_of_info (by kernel_rfl)
set_option maxRecDepth 100000 in
theorem z64c_bytes : z64c = bytesV ([] ++ List.replicate 64 0) := by simp [z64c, bytesV]

/-- The sector and the array under way. -/
structure TX (w : World) (x : Sec) (B : List UInt8) (W : World) : Prop where
  s : W.heap[w.heap.size]? = some (.cells (secV x) 289 (0, 0))
  a : W.heap[w.heap.size + 1]? = some (.cells (bytesV B).toArray 143 (0, 0))
  b : Below w.heap.size w W
set_option maxRecDepth 100000 in
theorem TX.put {w : World} {x : Sec} {B : List UInt8} {W W' : World} (h : TX w x B W) (ht : Turn (fun k => k = w.heap.size + 1) W W') {B' : List UInt8} (ha : W'.heap[w.heap.size + 1]? = some (.cells (bytesV B').toArray 143 (0, 0))) : TX w x B' W' := by
  have hlt : w.heap.size + 1 < W.heap.size := (Array.getElem?_eq_some_iff.1 h.a).1
  exact ⟨by rw [ht.block _ (by omega) (by omega)]; exact h.s, ha, h.b.trans (ht.below w.heap.size (by omega) (fun k hk => by omega))⟩
set_option maxRecDepth 100000 in
theorem TX.drewN {w : World} {x : Sec} {B : List UInt8} {W : World} (h : TX w x B W) (n : Nat) : TX w x B (W.drewN n) := ⟨h.s, h.a, below_drewN h.b n⟩
set_option maxRecDepth 100000 in
theorem TX.drew {w : World} {x : Sec} {B : List UInt8} {W : World} (h : TX w x B W) : TX w x B W.drew := ⟨h.s, h.a, h.b.drew⟩
set_option maxRecDepth 100000 in
theorem TX.set {w : World} {x : Sec} {B : List UInt8} {W : World} (h : TX w x B W) (Y : List UInt8) (c0 c : UInt8) (Z : List UInt8) (hB : B = Y ++ c0 :: Z) (o : Nat) (ho : o = Y.length) (u : Int) (hu : u = (c.toNat : Int)) : TX w x (Y ++ c :: Z) (W.setCell ⟨w.heap.size + 1, o, none⟩ (.int .u8 u)) := by
  subst hB ho hu
  refine h.put ((Turn.refl _ _).setCell _ _ (.inl rfl)) ?_
  exact setRow_cell W _ _ _ 143 _ h.a _ (.int .u8 (c0.toNat : Int)) (bytesV Y) (bytesV Z) (by simp [bytesV]) (by simp [bytesV]) (by simp [bytesV])
set_option maxRecDepth 100000 in
theorem TX.c {w : World} {x : Sec} {B : List UInt8} {W : World} (h : TX w x B W) :
    W.cell? ⟨w.heap.size, 0, none⟩ = some (.int .i64 (x.life : Int)) ∧ W.cell? ⟨w.heap.size, 1, none⟩ = some (.int .i64 (x.record : Int)) ∧ W.cell? ⟨w.heap.size, 2, none⟩ = some (.int .i64 (x.part : Int)) ∧ W.cell? ⟨w.heap.size, 3, none⟩ = some (.bool x.last) ∧ W.cell? ⟨w.heap.size, 4, none⟩ = some (.string (mkB x.data)) :=
  ⟨cell_row h.s rfl, cell_row h.s rfl, cell_row h.s rfl, cell_row h.s rfl, cell_row h.s rfl⟩
set_option maxRecDepth 100000 in
/-- putNumber into the array. -/
theorem TX.put76 {w : World} {x : Sec} {A : List UInt8} {m : Nat} {W : World} (h : TX w x (A ++ List.replicate m 0) W) (o n c N : Nat) (ho : o = A.length) (hn : n ≤ m) (hn8 : n ≤ 8) (hN : N < 9223372036854775808) :
    Calls Tryz.prog 215 #[.slice (some ⟨w.heap.size + 1, o, none⟩) n c, .int .i64 (N : Int)] W fun e W' => e = .returned (.tuple #[]) ∧ TX w x ((A ++ be n N) ++ List.replicate (m - n) 0) W' := by
  refine (L6.put76 (w.heap.size + 1) o n c _ 143 N W h.a (by simp [bytesV_len]; omega) hN hn8).mono ?_
  rintro e W' ⟨rfl, ha, ht, -⟩
  refine ⟨rfl, h.put ht ?_⟩
  rw [ha, lay_in A (be n N) m o n ho (by rw [be_len])]

set_option maxRecDepth 100000 in
set_option maxHeartbeats 2000000 in
theorem text66 (x : Sec) (hd : x.data.length ≤ 51) (h1 : x.life < 9223372036854775808) (h2 : x.record < 9223372036854775808) (h3 : x.part < 9223372036854775808) (w : World) :
    Calls Tryz.prog 200 #[.agg (secV x)] w fun e w' => e = .returned (.string (layB x)) ∧ Below w.heap.size w w' := by
  have hz := zero96'.1
  have hT0 : TX w x ([] ++ List.replicate 64 0) ((w.alloc (.cells (secV x) 289)).alloc (.cells z64c.toArray 143)) := by
    refine ⟨?_, ?_, ((Below.refl _ _).alloc (Nat.le_refl _) _).alloc (by simp) _⟩
    · rw [Below.heap_alloc _ _ _ (by simp)]; exact heap_alloc_new _ _
    · rw [← z64c_bytes]; have := heap_alloc_new (w.alloc (.cells (secV x) 289)) (.cells z64c.toArray 143); simpa using this
  have HT0 := Lib.hid hT0
  clear hT0
  obtain ⟨Z, hZ⟩ : ∃ Z, z64c.toArray = Z := ⟨_, rfl⟩
  obtain ⟨X, hX⟩ : ∃ X, secV x = X := ⟨_, rfl⟩
  rw [hZ] at hz HT0
  rw [hX] at HT0 ⊢
  clear hZ hX
  go_enter Tryz.func200, Tryz.ntmps200
  go_upto_region 2 with (fail)
  generalize hW1 : (w.alloc (.cells X 289)).alloc (.cells Z 143) = w1 at HT0
  clear hW1
  have hc := HT0.out.c
  obtain ⟨c0, c1, c2, c3, c4⟩ := hc
  go_still_tail 3, (by kernel_rfl)
  change wpList _ _ _ _ _ (World.drew _)
  have HP := Lib.hid (HT0.out.drew.put76 0 4 64 x.life rfl (by omega) (by omega) h1)
  go_wp2_with fail
  refine HP.out.mono ?_
  rintro e w2 ⟨rfl, hT⟩
  have HT1 := Lib.hid hT
  clear hT HP HT0 c0 c1 c2 c3 c4
  obtain ⟨c0, c1, c2, c3, c4⟩ := HT1.out.c
  go_upto_region 3 with fail
  go_still_tail 3, (by kernel_rfl)
  change wpList _ _ _ _ _ (World.drew _)
  have HP := Lib.hid (HT1.out.drew.put76 4 4 60 x.record (by simp [be_len]) (by omega) (by omega) h2)
  go_wp2_with fail
  refine HP.out.mono ?_
  rintro e w3 ⟨rfl, hT⟩
  have HT2 := Lib.hid hT
  clear hT HP HT1 c0 c1 c2 c3 c4
  obtain ⟨c0, c1, c2, c3, c4⟩ := HT2.out.c
  go_upto_region 4 with fail
  go_still_tail 3, (by kernel_rfl)
  change wpList _ _ _ _ _ (World.drew _)
  have HP := Lib.hid (HT2.out.drew.put76 8 2 56 x.part (by simp [be_len]) (by omega) (by omega) h3)
  go_wp2_with fail
  refine HP.out.mono ?_
  rintro e w4 ⟨rfl, hT⟩
  have HT3 := Lib.hid hT
  clear hT HP HT2 c0 c1 c2 c3 c4
  obtain ⟨c0, c1, c2, c3, c4⟩ := HT3.out.c
  obtain ⟨A, hA⟩ : ∃ A, ([] ++ be 4 x.life ++ be 4 x.record ++ be 2 x.part) = A := ⟨_, rfl⟩
  rw [hA] at HT3
  have HAL : Hid (A.length = 10) := by unfold Hid; rw [← hA]; simp [be_len]
  have HA := Lib.hid hA
  clear hA
  have hz10 : w4.cell? ⟨w.heap.size + 1, 10, none⟩ = some (.int .u8 0) := by
    refine cell_row HT3.out.a ?_
    simp [bytesV, HAL.out]
  have hf10 : w4.frozen? ⟨w.heap.size + 1, 10, none⟩ = false := frozen_of_row _ _ _ _ _ HT3.out.a
  have hsz : (mkB x.data).size = x.data.length := mkB_size _
  obtain ⟨n, hn⟩ : ∃ n, x.data.length = n := ⟨_, rfl⟩
  rw [hn] at hsz hd
  have HN := Lib.hid hn
  have HT4 : Hid (TX w x (A ++ UInt8.ofNat n :: List.replicate 53 0) (w4.setCell ⟨w.heap.size + 1, 10, none⟩ (.int .u8 (n : Int)))) :=
    HT3.out.set A 0 _ _ rfl 10 HAL.out.symm _ (by simp; omega)
  have HFIN : Hid (x.last = true → TX w x (A ++ UInt8.ofNat (markOf x) :: List.replicate 53 0) ((w4.setCell ⟨w.heap.size + 1, 10, none⟩ (.int .u8 (n : Int))).setCell ⟨w.heap.size + 1, 10, none⟩ (.int .u8 ((n : Int) + 128)))) := fun hl =>
    HT4.out.set A (UInt8.ofNat n) _ _ rfl 10 HAL.out.symm _ (by
      have : markOf x = n + 128 := by unfold markOf; rw [HN.out, hl]; rfl
      rw [this]; simp; omega)
  have HFIN0 : Hid (x.last = false → A ++ UInt8.ofNat n :: List.replicate 53 0 = A ++ UInt8.ofNat (markOf x) :: List.replicate 53 0) := fun hl => by
    have : markOf x = n := by unfold markOf; rw [HN.out, hl]; rfl
    rw [this]
  clear hn
  go_upto_if 22 with fail
  go_cut [] from 4 (fun wx => TX w x (A ++ UInt8.ofNat (markOf x) :: List.replicate 53 0) wx)
  case first =>
    cases hl : x.last with
    | true =>
      have HX := Lib.hid (HFIN.out hl)
      clear HFIN HFIN0 HT3
      go_wp2_with fail
      go_meet
      case rel => exact HX.out
    | false =>
      have HX := Lib.hid HT4.out
      rw [HFIN0.out hl] at HX
      clear HFIN HFIN0 HT3
      go_wp2_with fail
      go_meet
      case rel => exact HX.out
  case rest =>
    have HC := Lib.hid hcut
    clear hcut HT4 HT3 HFIN HFIN0 hz10 hf10 c0 c1 c2 c3 c4
    obtain ⟨c0, c1, c2, c3, c4⟩ := HC.out.c
    obtain ⟨M, hM⟩ : ∃ M, A ++ [UInt8.ofNat (markOf x)] = M := ⟨_, rfl⟩
    have HML : Hid (M.length = 11) := by unfold Hid; rw [← hM, List.length_append, HAL.out]; rfl
    have HC2 : Hid (TX w x (M ++ List.replicate 53 0) wc) := by unfold Hid; rw [← hM]; have := HC.out; simpa using this
    have HM := Lib.hid hM
    have HNN : Hid (x.data.length = n) := HN.out
    have HCP := Lib.hid (run_copy_str (P := Tryz.prog) wc.drew 124 9 3 5 (w.heap.size + 1) 11 51 53 (mkB x.data) (bytesV (M ++ List.replicate 53 0)) 143 n Tryz.underlying124 size5 (by rw [hsz]; exact (Nat.min_eq_left hd).symm) HC2.out.drew.a (by simp [bytesV_len, HML.out]; omega))
    have HT5 : Hid (TX w x ((M ++ x.data) ++ List.replicate (53 - n) 0) (wc.drew.setRow (w.heap.size + 1) ((bytesV (M ++ List.replicate 53 0)).take 11 ++ bytesV ((mkB x.data).data.toList.take n) ++ (bytesV (M ++ List.replicate 53 0)).drop (11 + n)).toArray)) := by
      have hr := setRow_heap wc.drew (w.heap.size + 1) _ ((bytesV (M ++ List.replicate 53 0)).take 11 ++ bytesV ((mkB x.data).data.toList.take n) ++ (bytesV (M ++ List.replicate 53 0)).drop (11 + n)).toArray _ _ HC2.out.drew.a
      refine HC2.out.drew.put (W' := wc.drew.setRow (w.heap.size + 1) ((bytesV (M ++ List.replicate 53 0)).take 11 ++ bytesV ((mkB x.data).data.toList.take n) ++ (bytesV (M ++ List.replicate 53 0)).drop (11 + n)).toArray) ⟨rfl, rfl, rfl, by simp, fun k _ hk => setRow_other _ _ _ _ hk⟩ ?_
      rw [hr, mkB_list, List.take_of_length_le (l := x.data) (by rw [HNN.out]; omega), lay_in M x.data 53 11 n HML.out.symm HNN.out.symm]
    generalize ((bytesV (M ++ List.replicate 53 0)).take 11 ++ bytesV ((mkB x.data).data.toList.take n) ++ (bytesV (M ++ List.replicate 53 0)).drop (11 + n)).toArray = Y at HCP HT5
    have hcp := HCP.out
    clear HC hM HCP HN
    go_upto_region 8 with fail
    go_still_tail 3, (by kernel_rfl)
    change wpList _ _ _ _ _ (World.drew _)
    go_upto_region 9 with fail
    generalize wc.drew.setRow (w.heap.size + 1) Y = w6 at HT5
    have hbd : Hid (bodyOf x = M ++ x.data ++ List.replicate (51 - n) 0) := by
      unfold Hid bodyOf
      rw [← HM.out, ← HA.out, HNN.out]
      simp
    have hB6 : Hid (TX w x (bodyOf x ++ List.replicate 2 0) w6) := by
      unfold Hid
      rw [hbd.out, List.append_assoc _ _ (List.replicate 2 0), List.replicate_append_replicate, show 51 - n + 2 = 53 - n by omega]
      exact HT5.out
    have hbl := bodyOf_len x (by rw [HNN.out]; exact hd)
    have HLAY : Hid (lay x = bodyOf x ++ be 2 (wt 0 (bodyOf x) % 65521)) := rfl
    obtain ⟨Bd, hBd⟩ : ∃ Bd, bodyOf x = Bd := ⟨_, rfl⟩
    rw [hBd] at hB6 hbl HLAY
    clear hBd hbd HT5 HC2 c0 c1 c2 c3 c4 hcp
    have hcv : ∀ W B, TX w x (Bd ++ B) W → (convert 124 9 (.slice (some ⟨w.heap.size + 1, 0, none⟩) 62 64)).run Tryz.prog W = .ok (.string (mkB Bd)) W := fun W B h => by
      refine conv_range W _ 62 64 (mkB Bd) (by rw [mkB_size]; exact hbl.symm) ?_
      intro j v hv
      rw [Nat.zero_add]
      refine cell_row h.a ?_
      unfold secC at hv
      rw [mkB_list] at hv
      rw [bytesV_append]
      have hj : j < (bytesV Bd).length := by
        by_cases hq : j < (bytesV Bd).length
        · exact hq
        · rw [List.getElem?_eq_none (by omega)] at hv; cases hv
      simp only [List.getElem?_toArray]
      rw [List.getElem?_append_left hj]
      exact hv
    have HCK := Lib.hid fun w => checksum72 (mkB Bd) (by rw [mkB_size]; omega) w
    rw [mkB_list] at HCK
    have hsm : wt 0 Bd % 65521 < 65521 := Nat.mod_lt _ (by omega)
    generalize wt 0 Bd % 65521 = sm at HCK HLAY hsm
    have HP : Hid (Calls Tryz.prog 215 #[.slice (some ⟨w.heap.size + 1, 62, none⟩) 2 2, .int .i64 (sm : Int)] w6.drew fun e W' => e = .returned (.tuple #[]) ∧ TX w x ((Bd ++ be 2 sm) ++ List.replicate (2 - 2) 0) W' ∧ (convert 124 9 (.slice (some ⟨w.heap.size + 1, 0, none⟩) 62 64)).run Tryz.prog W' = .ok (.string (mkB Bd)) W') :=
      (hB6.out.drew.put76 62 2 2 sm hbl.symm (by omega) (by omega) (by omega)).mono fun e W' h => ⟨h.1, h.2, hcv _ (be 2 sm ++ List.replicate (2 - 2) 0) (by rw [← List.append_assoc]; exact h.2)⟩
    have hcv1 := hcv _ _ hB6.out.drew
    clear HML HAL HA HM hcv
    go_cut [] from 31 (fun wx => TX w x ((Bd ++ be 2 sm) ++ List.replicate (2 - 2) 0) wx)
    case first =>
      go_region_held3 (fun W => (convert 124 9 (.slice (some ⟨w.heap.size + 1, 0, none⟩) 62 64)).run Tryz.prog W = .ok (.string (mkB Bd)) W) (assumption) (first | (go_at_call 210; with_reducible refine (HCK.out _).mono ?_; rintro e w' ⟨rfl, rfl⟩) | (go_at_call 215; refine HP.out.mono ?_; rintro e w' ⟨rfl, hT, hK⟩))
      all_goals
        go_wp2_with fail
        go_meet
        case rel => exact hT
    case rest =>
      have HT7 := Lib.hid hcut
      clear hcut HP hB6 hcv1
      have hcv2 : (convert 124 9 (.slice (some ⟨w.heap.size + 1, 0, none⟩) 64 64)).run Tryz.prog wc = .ok (.string (layB x)) wc := by
        have hL : (layB x).data.toList = Bd ++ be 2 sm := HLAY.out
        have hlen : (Bd ++ be 2 sm).length = 64 := by rw [List.length_append, hbl, be_len]
        refine conv_range wc _ 64 64 (layB x) (by rw [← len_list, hL, hlen]) ?_
        intro j v hv
        rw [Nat.zero_add]
        refine cell_row HT7.out.a ?_
        unfold secC at hv
        rw [hL] at hv
        simpa using hv
      clear HLAY HCK
      go_wp2
      go_ret
      exact ⟨rfl, HT7.out.b⟩
end Go.Proofs.YtjanddnlhaionaaGreatDoor.L6
