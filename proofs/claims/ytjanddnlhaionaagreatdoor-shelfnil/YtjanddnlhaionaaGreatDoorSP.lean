/-
  The walk of ShelfNil. No condition but that the tables are laid.
-/
import Derived.Test.YtjanddnlhaionaaGreatDoorSO
set_option maxRecDepth 100000
namespace Go.Proofs.YtjanddnlhaionaaGreatDoor
open Go.RowKit
open L3 (Tabs St)
open L4 (C LAt LIn LNF Wf Box)
open L2 (Row)

/-- The rest of ShelfNil, once there is no shelf at p. -/
structure NoShelf (p : Value) (w : World) : Prop where
  no : ∀ w', Below w.heap.size w w' → SNot p w'
theorem NoShelf.nil (w : World) : NoShelf (.pointer none) w := ⟨fun w' _ => sNot_nil w'⟩
theorem NoShelf.zero {w : World} {b : Nat} (h : w.heap[b]? = some (.cells #[.pointer none, .map none, .slice none 0 0] 87 (0, 0))) : NoShelf (.pointer (some ⟨b, 0, none⟩)) w :=
  ⟨fun w' hb => sNot_zero w' b (L6.cell_row ((hb.block b (Array.getElem?_eq_some_iff.1 h).1).trans h) rfl)⟩
theorem NoShelf.step {p : Value} {w w' : World} (h : NoShelf p w) (hb : Below w.heap.size w w') : NoShelf p w' := ⟨fun w'' hb' => h.no w'' (hb.trans (hb'.mono hb.size))⟩

set_option maxHeartbeats 8000000 in
theorem nil8 (K : List Int) (I : St) (kd : Int) (label : ByteArray) (rows : List Row) (kids : List Kd) (parents : List ByteArray) (stamp : Int) (note root : ByteArray) (r k p : Value) (id : ByteArray) (made : Bool) (w : World) (h : ObAt w r k p ⟨kd, label, rows, kids, parents, stamp, note, root⟩) (hT : Tabs K I w) :
    Calls Tryz.prog 8 #[.agg #[.int .i64 kd, .string label, r, k, p, .int .i64 stamp, .string note, .string root], .string id, .bool made] w fun e w' => e = .returned (.bool true) ∧ Below w.heap.size w w' := by
  obtain ⟨Ar, cr, rfl, -⟩ := h.rows
  obtain ⟨Ak, ck, rfl, -⟩ := h.kids
  obtain ⟨Ap, cp, rfl, -⟩ := h.parents
  simp only at *
  have HT := Lib.hid hT
  have h2 := hT.two
  have HLV : Hid (∀ W, Below w.heap.size w W → Calls Tryz.prog 27 #[] W fun e w' => e = .returned (.bool true) ∧ Below W.heap.size W w') := fun W hb => lives27 K I W (hT.below hb h2)
  generalize rows.length = nr at *
  generalize kids.length = nk at *
  generalize parents.length = np at *
  obtain ⟨W1, hW1⟩ : ∃ W1, w.alloc (.cells #[.int .i64 kd, .string label, .slice Ar nr cr, .slice Ak nk ck, .slice Ap np cp, .int .i64 stamp, .string note, .string root] 27) = W1 := ⟨_, rfl⟩
  have hb1 : Below w.heap.size w W1 := by rw [← hW1]; exact (Below.refl _ _).alloc (Nat.le_refl _) _
  have hr1 : W1.heap[w.heap.size]? = some (.cells #[.int .i64 kd, .string label, .slice Ar nr cr, .slice Ak nk ck, .slice Ap np cp, .int .i64 stamp, .string note, .string root] 27 (0, 0)) := by rw [← hW1]; exact heap_alloc_new _ _
  obtain ⟨W2, hW2⟩ : ∃ W2, W1.alloc (.cells (actCells kd label (.slice Ar nr cr) (.slice Ak nk ck) (.slice Ap np cp) stamp note root) 73) = W2 := ⟨_, rfl⟩
  have hb2 : Below W1.heap.size W1 W2 := by rw [← hW2]; exact (Below.refl _ _).alloc (Nat.le_refl _) _
  have hf2 : W2.heap[w.heap.size + 1]? = some (.cells (actCells kd label (.slice Ar nr cr) (.slice Ak nk ck) (.slice Ap np cp) stamp note root) 73 (0, 0)) := by
    have e : W1.heap.size = w.heap.size + 1 := by rw [← hW1]; simp
    rw [← hW2, ← e]; exact heap_alloc_new _ _
  have HFW := Lib.hid (few26_one_in kd label nr nk np Ar Ak Ap cr ck cp stamp note root (w.heap.size + 1) W2 hf2 _ rfl)
  have HB2 := Lib.hid (hb1.trans (hb2.mono hb1.size))
  have HR2 := Lib.hid ((hb2.block _ (by rw [← hW1]; simp)).trans hr1)
  have HW2 : Hid ((w.alloc (.cells #[.int .i64 kd, .string label, .slice Ar nr cr, .slice Ak nk ck, .slice Ap np cp, .int .i64 stamp, .string note, .string root] 27)).alloc (.cells (actCells kd label (.slice Ar nr cr) (.slice Ak nk ck) (.slice Ap np cp) stamp note root) 73) = W2) := by rw [hW1]; exact hW2
  unfold actCells at HW2
  clear h hT hb1 hr1 hW1 hb2 hW2 hf2
  generalize (!decide (300 < wrap64 (wrap64 ((label.size : Int) + (note.size : Int)) + (root.size : Int))) && (!decide ((70 : Int) < (nr : Int)) && (!decide ((60 : Int) < (nk : Int)) && !decide ((5 : Int) < (np : Int))))) = q at HFW
  rw [← HW2.out] at HFW
  cases q with
  | false =>
    go_enter Tryz.func8, Tryz.ntmps8
    go_wp2_with fail
    refine HFW.out.mono ?_
    rintro _ w3 ⟨rfl, hb3⟩
    rw [HW2.out] at hb3
    have HB3 := Lib.hid (HB2.out.trans (hb3.mono HB2.out.size))
    clear hb3 HFW
    go_wp2_with fail
    refine (HLV.out _ HB3.out).mono ?_
    rintro _ w4 ⟨rfl, hb4⟩
    have HB4 := Lib.hid (HB3.out.trans (hb4.mono HB3.out.size))
    clear hb4
    go_wp2_with fail
    go_ret
    exact ⟨rfl, HB4.out⟩
  | true =>
    by_cases hsz : (100 : Int) < (id.size : Int)
    · have t1 : decide ((100 : Int) < (id.size : Int)) = true := decide_eq_true hsz
      clear hsz
      go_enter Tryz.func8, Tryz.ntmps8
      go_wp2_with fail
      refine HFW.out.mono ?_
      rintro _ w3 ⟨rfl, hb3⟩
      rw [HW2.out] at hb3
      have HB3 := Lib.hid (HB2.out.trans (hb3.mono HB2.out.size))
      clear hb3 HFW
      go_wp2_with fail
      refine (HLV.out _ HB3.out).mono ?_
      rintro _ w4 ⟨rfl, hb4⟩
      have HB4 := Lib.hid (HB3.out.trans (hb4.mono HB3.out.size))
      clear hb4
      go_wp2_with fail
      go_ret
      exact ⟨rfl, HB4.out⟩
    · have t1 : decide ((100 : Int) < (id.size : Int)) = false := decide_eq_false hsz
      clear hsz
      go_enter Tryz.func8, Tryz.ntmps8
      go_wp2_with fail
      refine HFW.out.mono ?_
      rintro _ w3 ⟨rfl, hb3⟩
      rw [HW2.out] at hb3
      have HB3 := Lib.hid (HB2.out.trans (hb3.mono HB2.out.size))
      have HR3 := Lib.hid ((hb3.block _ (Array.getElem?_eq_some_iff.1 HR2.out).1).trans HR2.out)
      clear hb3 HFW HR2 HB2 HW2
      go_upto_if 26 with fail
      go_cut [7] from 30 (fun s7 wx => Hid (NoShelf s7 wx) ∧ Hid (Below w.heap.size w wx) ∧ Hid (wx.heap[w.heap.size]? = some (.cells #[.int .i64 kd, .string label, .slice Ar nr cr, .slice Ak nk ck, .slice Ap np cp, .int .i64 stamp, .string note, .string root] 27 (0, 0))))
      case first =>
        cases made with
        | false =>
          go_wp2_with fail
          go_meet
          case rel => exact ⟨NoShelf.nil _, HB3.out, HR3.out⟩
        | true =>
          have hb4 : Below w3.heap.size w3 (w3.alloc (.cells #[.pointer none, .map none, .slice none 0 0] 87)) := (Below.refl _ _).alloc (Nat.le_refl _) _
          have H4 : Hid (NoShelf (.pointer (some ⟨w3.heap.size, 0, none⟩)) (w3.alloc (.cells #[.pointer none, .map none, .slice none 0 0] 87)) ∧ Below w.heap.size w (w3.alloc (.cells #[.pointer none, .map none, .slice none 0 0] 87)) ∧ (w3.alloc (.cells #[.pointer none, .map none, .slice none 0 0] 87)).heap[w.heap.size]? = some (.cells #[.int .i64 kd, .string label, .slice Ar nr cr, .slice Ak nk ck, .slice Ap np cp, .int .i64 stamp, .string note, .string root] 27 (0, 0))) :=
            ⟨NoShelf.zero (heap_alloc_new _ _), HB3.out.trans (hb4.mono HB3.out.size), (hb4.block _ (Array.getElem?_eq_some_iff.1 HR3.out).1).trans HR3.out⟩
          clear hb4
          go_wp2_with fail
          go_meet
          case rel => exact ⟨H4.out.1, H4.out.2.1, H4.out.2.2⟩
      case rest =>
        obtain ⟨HNS, HBC, HRC⟩ := hcut
        have c0 : wc.cell? ⟨w.heap.size, 0, none⟩ = some (.int .i64 kd) := L6.cell_row HRC.out rfl
        have c1 : wc.cell? ⟨w.heap.size, 1, none⟩ = some (.string label) := L6.cell_row HRC.out rfl
        have c2 : wc.cell? ⟨w.heap.size, 2, none⟩ = some (.slice Ar nr cr) := L6.cell_row HRC.out rfl
        have c3 : wc.cell? ⟨w.heap.size, 3, none⟩ = some (.slice Ak nk ck) := L6.cell_row HRC.out rfl
        have c4 : wc.cell? ⟨w.heap.size, 4, none⟩ = some (.slice Ap np cp) := L6.cell_row HRC.out rfl
        have c5 : wc.cell? ⟨w.heap.size, 5, none⟩ = some (.int .i64 stamp) := L6.cell_row HRC.out rfl
        have c6 : wc.cell? ⟨w.heap.size, 6, none⟩ = some (.string note) := L6.cell_row HRC.out rfl
        have c7 : wc.cell? ⟨w.heap.size, 7, none⟩ = some (.string root) := L6.cell_row HRC.out rfl
        have HPN := Lib.hid (put38_no HNS.out.no kd label stamp note root (.slice Ar nr cr) (.slice Ak nk ck) (.slice Ap np cp))
        go_wp2_with fail
        refine HPN.out.mono ?_
        rintro _ w4 ⟨rfl, hb4⟩
        have HNS4 := Lib.hid (HNS.out.step hb4)
        have HB4 := Lib.hid (HBC.out.trans (hb4.mono HBC.out.size))
        have HG4 := Lib.hid (get41_no HNS4.out.no id)
        clear hb4 c0 c1 c2 c3 c4 c5 c6 c7 HPN HNS HBC HRC HR3 HB3
        go_wp2_with fail
        refine HG4.out.mono ?_
        rintro _ w5 ⟨hb5, A1, n1, k1, A2, n2, k2, A3, n3, k3, rfl, hob⟩
        have hb6 : Below w5.heap.size w5 (w5.alloc (.cells #[.int .i64 0, .string ⟨#[]⟩, .slice A1 n1 k1, .slice A2 n2 k2, .slice A3 n3 k3, .int .i64 0, .string ⟨#[]⟩, .string ⟨#[]⟩] 27)) := (Below.refl _ _).alloc (Nat.le_refl _) _
        have HR6 := Lib.hid (heap_alloc_new w5 (.cells #[.int .i64 0, .string ⟨#[]⟩, .slice A1 n1 k1, .slice A2 n2 k2, .slice A3 n3 k3, .int .i64 0, .string ⟨#[]⟩, .string ⟨#[]⟩] 27))
        have HOB6 := Lib.hid (hob.step hb6)
        have hb46 := hb5.trans (hb6.mono hb5.size)
        have HNS6 := Lib.hid (HNS4.out.step hb46)
        have HB6 := Lib.hid (HB4.out.trans (hb46.mono HB4.out.size))
        clear hb5 hb6 hob hb46 HNS4 HB4 HG4
        unfold zeroO
        simp only
        go_wp2_with fail
        refine (open33_nil _).mono ?_
        rintro _ w7 ⟨rfl, hb7⟩
        have hr7 := (hb7.block w5.heap.size (by simp)).trans HR6.out
        have d0 : w7.cell? ⟨w5.heap.size, 0, none⟩ = some (.int .i64 0) := L6.cell_row hr7 rfl
        have d1 : w7.cell? ⟨w5.heap.size, 1, none⟩ = some (.string ⟨#[]⟩) := L6.cell_row hr7 rfl
        have d2 : w7.cell? ⟨w5.heap.size, 2, none⟩ = some (.slice A1 n1 k1) := L6.cell_row hr7 rfl
        have d3 : w7.cell? ⟨w5.heap.size, 3, none⟩ = some (.slice A2 n2 k2) := L6.cell_row hr7 rfl
        have d4 : w7.cell? ⟨w5.heap.size, 4, none⟩ = some (.slice A3 n3 k3) := L6.cell_row hr7 rfl
        have d5 : w7.cell? ⟨w5.heap.size, 5, none⟩ = some (.int .i64 0) := L6.cell_row hr7 rfl
        have d6 : w7.cell? ⟨w5.heap.size, 6, none⟩ = some (.string ⟨#[]⟩) := L6.cell_row hr7 rfl
        have d7 : w7.cell? ⟨w5.heap.size, 7, none⟩ = some (.string ⟨#[]⟩) := L6.cell_row hr7 rfl
        have HS7 : Hid (Calls Tryz.prog 22 #[.agg #[.int .i64 0, .string ⟨#[]⟩, .slice A1 n1 k1, .slice A2 n2 k2, .slice A3 n3 k3, .int .i64 0, .string ⟨#[]⟩, .string ⟨#[]⟩], .agg #[.int .i64 0, .string ⟨#[]⟩, .slice none 0 0, .slice none 0 0, .slice none 0 0, .int .i64 0, .string ⟨#[]⟩, .string ⟨#[]⟩]] w7 fun e w' => e = .returned (.bool true) ∧ Below w7.heap.size w7 w') :=
          same10 0 ⟨#[]⟩ [] [] [] 0 ⟨#[]⟩ ⟨#[]⟩ _ _ _ _ _ _ w7 (HOB6.out.step hb7) (zero_at w7)
        have HNS7 := Lib.hid (HNS6.out.step hb7)
        have HB7 := Lib.hid (HB6.out.trans (hb7.mono HB6.out.size))
        clear hb7 hr7 HOB6 HNS6 HB6 HR6
        go_wp2_with fail
        refine HS7.out.mono ?_
        rintro _ w8 ⟨rfl, hb8⟩
        have HNS8 := Lib.hid (HNS7.out.step hb8)
        have HB8 := Lib.hid (HB7.out.trans (hb8.mono HB7.out.size))
        clear hb8 HNS7 HB7 HS7 d0 d1 d2 d3 d4 d5 d6 d7
        go_wp2_with fail
        refine (seven40 _).mono ?_
        rintro _ w9 ⟨rfl, hb9⟩
        have HNS9 := Lib.hid (HNS8.out.step hb9)
        have HB9 := Lib.hid (HB8.out.trans (hb9.mono HB8.out.size))
        have HC9 := Lib.hid (commit34_no HNS9.out.no 1 7 ⟨#[]⟩ (.slice none 0 0))
        clear hb9 HNS8 HB8
        go_wp2_with fail
        refine HC9.out.mono ?_
        rintro _ w10 ⟨rfl, hb10⟩
        have HN10 := Lib.hid (HNS9.out.no _ hb10)
        have HB10 := Lib.hid (HB9.out.trans (hb10.mono HB9.out.size))
        clear hb10 HNS9 HB9 HC9
        go_wp2_with (first | (go_at_call 35; refine (drop35_no HN10.out).mono ?_; rintro _ w' ⟨rfl, rfl⟩) | (go_at_call 39; refine (len39_no HN10.out).mono ?_; rintro _ w' ⟨rfl, rfl⟩) | (go_at_call 42; refine (fresh42_no HN10.out).mono ?_; rintro _ w' ⟨rfl, rfl⟩) | (go_at_call 43; refine (room43_no HN10.out).mono ?_; rintro _ w' ⟨rfl, rfl⟩) | (go_at_call 44; refine (batches44_no HN10.out).mono ?_; rintro _ w' ⟨rfl, rfl⟩))
        refine (HLV.out _ HB10.out).mono ?_
        rintro _ w11 ⟨rfl, hb11⟩
        have HB11 := Lib.hid (HB10.out.trans (hb11.mono HB10.out.size))
        clear hb11
        go_wp2_with fail
        go_ret
        exact ⟨rfl, HB11.out⟩
end Go.Proofs.YtjanddnlhaionaaGreatDoor
