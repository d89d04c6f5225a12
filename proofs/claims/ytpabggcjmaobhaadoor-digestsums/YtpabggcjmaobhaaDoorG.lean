/-
  New, Hash.Sum, Hash.Len, digest.Sum. The two tables lie as they are laid.
-/
import Derived.Test.YtpabggcjmaobhaaDoorF
namespace Go.Proofs.YtpabggcjmaobhaaDoor
open Go.RowKit

/-- The initial state lies in block 0. -/
def InitAt (w : World) (I : St) : Prop := ∀ i, i < 8 → w.cell? ⟨0, i, none⟩ = some (.int .u32 (I.list.getD i 0))
theorem InitAt.below {I : St} {b : Nat} {w w' : World} (h : InitAt w I) (hb : Below b w w') (h2 : 2 ≤ b) : InitAt w' I := fun i hi => by
  rw [hb.cell (show (0 : Nat) < b by omega)]; exact h i hi

def zeroRow : Array Value := (hashRow false ⟨0, 0, 0, 0, 0, 0, 0, 0⟩ (List.replicate 64 0) 0).toArray
theorem zero43 : (∀ w, (zeroValue 43).run Tryd.prog w = .ok (.agg zeroRow) w) ∧ (Tryd.prog.info? 43).map (·.size) = some 74 :=
  zero_of_info (by kernel_rfl)

set_option maxRecDepth 100000 in
set_option maxHeartbeats 800000 in
theorem new15_core (a b c d e f g h : Int) (Z : Array Value) (hz : ∀ w, (zeroValue 43).run Tryd.prog w = .ok (.agg Z) w) (hs : Z.size = 74) (w : World) (hI : InitAt w ⟨a, b, c, d, e, f, g, h⟩) :
    Calls Tryd.prog 15 #[] w fun x w' => x = .returned (.pointer (some ⟨w.heap.size, 0, none⟩)) ∧ w' = w.alloc (.cells (((((((((Z.setIfInBounds 0 (.bool true)).setIfInBounds 1 (.int .u32 a)).setIfInBounds 2 (.int .u32 b)).setIfInBounds 3 (.int .u32 c)).setIfInBounds 4 (.int .u32 d)).setIfInBounds 5 (.int .u32 e)).setIfInBounds 6 (.int .u32 f)).setIfInBounds 7 (.int .u32 g)).setIfInBounds 8 (.int .u32 h)) 43) := by
  have s0 : w.cell? ⟨0, 0, none⟩ = some (.int .u32 a) := hI 0 (by omega)
  have s1 : w.cell? ⟨0, 1, none⟩ = some (.int .u32 b) := hI 1 (by omega)
  have s2 : w.cell? ⟨0, 2, none⟩ = some (.int .u32 c) := hI 2 (by omega)
  have s3 : w.cell? ⟨0, 3, none⟩ = some (.int .u32 d) := hI 3 (by omega)
  have s4 : w.cell? ⟨0, 4, none⟩ = some (.int .u32 e) := hI 4 (by omega)
  have s5 : w.cell? ⟨0, 5, none⟩ = some (.int .u32 f) := hI 5 (by omega)
  have s6 : w.cell? ⟨0, 6, none⟩ = some (.int .u32 g) := hI 6 (by omega)
  have s7 : w.cell? ⟨0, 7, none⟩ = some (.int .u32 h) := hI 7 (by omega)
  have hne : ¬ Z = #[] := by rintro rfl; simp at hs
  clear hI
  go_enter Tryd.func15, Tryd.ntmps15
  go_wp2
  go_ret
  exact ⟨rfl, rfl⟩
theorem zeroRow_size : zeroRow.size = 74 := by kernel_rfl
theorem newRow (a b c d e f g h : Int) : (((((((((zeroRow.setIfInBounds 0 (.bool true)).setIfInBounds 1 (.int .u32 a)).setIfInBounds 2 (.int .u32 b)).setIfInBounds 3 (.int .u32 c)).setIfInBounds 4 (.int .u32 d)).setIfInBounds 5 (.int .u32 e)).setIfInBounds 6 (.int .u32 f)).setIfInBounds 7 (.int .u32 g)).setIfInBounds 8 (.int .u32 h)) = (hashRow true ⟨a, b, c, d, e, f, g, h⟩ (List.replicate 64 0) 0).toArray := by kernel_rfl
theorem new15 (K : List Int) (I : St) (w : World) (hI : InitAt w I) :
    Calls Tryd.prog 15 #[] w fun e w' => e = .returned (.pointer (some ⟨w.heap.size, 0, none⟩)) ∧ HashAt K I w.heap.size [] w' ∧ Below w.heap.size w w' := by
  obtain ⟨a, b, c, d, e, f, g, h⟩ := I
  have hc := new15_core a b c d e f g h _ zero43.1 zeroRow_size w hI
  rw [newRow] at hc
  refine hc.mono ?_
  rintro x w' ⟨hx, hw'⟩
  refine ⟨hx, ?_, ?_⟩
  · refine ⟨List.replicate 64 0, List.length_replicate, by simp [tailB], ?_⟩
    rw [foldB_small _ _ [] (by simp), hw', heap_alloc_new]
    rfl
  · rw [hw']
    exact (Below.refl _ _).alloc (Nat.le_refl _) _
theorem wpList_load_by {P : Program} {ops : Array Oper} {o : Oper} {rest : List Oper} {a : Act} {w : World} {Q : Exit → Act → World → Prop}
    (hg : o.guard = none) (ty : TypeId) (x : Operand) (ho : o.op = .load ty x) (p v : Value) (hx : a.eval x = p) (hrun : (Instr.loadAt ty p).run P w = .ok v w) (h : wpList P ops Q rest (a.put o.dst v) w) :
    wpList P ops Q (o :: rest) a w := by
  refine wpList_plain hg fun K hK => ?_
  unfold Oper.wp
  simp [execOp, ho, hx, hrun]
  exact hK _ _ h

/-- The digest of the bytes M. -/
def digestM (K : List Int) (I : St) (M : List UInt8) : List UInt8 := (foldB K I (M ++ padL M.length)).list.flatMap by4

theorem padL_length (n : Nat) : (padL n).length ≤ 72 := by
  have : padN n < 64 := by unfold padN; omega
  simp [padL, len8To]; omega

theorem hashRow_oneCell (m : Bool) (S : St) (B : List UInt8) (n : Nat) : (hashRow m S B n).toArray.all (·.oneCell') = true := by
  rw [Array.all_eq_true_iff_forall_mem]
  intro v hv
  simp only [hashRow, List.mem_toArray, List.mem_cons, List.mem_append, List.not_mem_nil, or_false] at hv
  rcases hv with rfl | hv | hv | rfl
  · rfl
  · exact (Array.all_eq_true_iff_forall_mem.1 (St.oneCell S)) v (by simpa using hv)
  · exact bytes_oneCell B v hv
  · rfl

theorem HashAt.lt {K : List Int} {I : St} {b : Nat} {M : List UInt8} {w : World} (h : HashAt K I b M w) : b < w.heap.size := by
  obtain ⟨B, _, _, hg⟩ := h.is
  by_cases hlt : b < w.heap.size
  · exact hlt
  · rw [Array.getElem?_eq_none (by omega)] at hg; cases hg
theorem HashAt.below {K : List Int} {I : St} {b c : Nat} {M : List UInt8} {w w' : World} (h : HashAt K I b M w) (hb : Below c w w') (hc : b < c) : HashAt K I b M w' := by
  obtain ⟨B, h1, h2, hg⟩ := h.is
  exact ⟨B, h1, h2, (hb.block b hc).trans hg⟩

set_option maxRecDepth 100000 in
set_option maxHeartbeats 800000 in
theorem sum17 (K : List Int) (I : St) (b : Nat) (M : List UInt8) (w : World) (hK : KeysAt w K) (hb2 : 2 ≤ b) (hH : HashAt K I b M w) (hl : M.length ≤ 900000) :
    Calls Tryd.prog 17 #[.pointer (some ⟨b, 0, none⟩)] w fun e w' => e = .returned (.string ⟨(digestM K I M).toArray⟩) ∧ Below w.heap.size w w' := by
  have HK := Lib.hid hK
  have hblt := hH.lt
  obtain ⟨B, hB, hBt, hg⟩ := hH.is
  have cm : w.cell? ⟨b, 0, none⟩ = some (.bool true) := cell_row hg (hashRow_made _ _ _ _)
  have HE := Lib.hid (exists24 b true w cm)
  obtain ⟨S, hS⟩ : ∃ S, foldB K I M = S := ⟨_, rfl⟩
  rw [hS] at hg
  obtain ⟨N, hN⟩ : ∃ N, M.length = N := ⟨_, rfl⟩
  rw [hN] at hg
  have HN := Lib.hid hN
  have hsz : (hashRow true S B N).length = 74 := hashRow_length _ _ _ _ hB
  have HG := Lib.hid hg
  have H1 := Lib.hid (hashRow_oneCell true S B N)
  have HI43 := Lib.hid zero43.2
  have hz := zero43.1
  have hZs := zeroRow_size
  generalize zeroRow = Z at hz hZs
  have cL0 := cell_row hg (hashRow_len _ _ _ _ hB)
  have hw2 : ((w.alloc (.cells Z 43)).setRow w.heap.size (hashRow true S B N).toArray).heap[w.heap.size]? = some (.cells (hashRow true S B N).toArray 43 (0, 0)) := setRow_heap _ _ _ _ _ _ (heap_alloc_new _ _)
  have hB2 : Below w.heap.size w ((w.alloc (.cells Z 43)).setRow w.heap.size (hashRow true S B N).toArray) := below_setRow ((Below.refl _ _).alloc (Nat.le_refl _) _) (Nat.le_refl _) _
  have hs2 : ((w.alloc (.cells Z 43)).setRow w.heap.size (hashRow true S B N).toArray).heap.size = w.heap.size + 1 := by simp
  have HH2 : Hid (HashAt K I w.heap.size M ((w.alloc (.cells Z 43)).setRow w.heap.size (hashRow true S B N).toArray)) := ⟨B, hB, hBt, by rw [hS, hN]; exact hw2⟩
  have HB2 := Lib.hid hB2
  have HS2 := Lib.hid hs2
  have hNl : N ≤ 900000 := by omega
  have cL1 := (hB2.cell (p := ⟨b, 73, none⟩) hblt).trans cL0
  have HP := Lib.hid (padding26 N (by omega))
  clear hS hg hN hBt hK cm hH hw2 hB2 hs2 hl cL0
  go_enter Tryd.func17, Tryd.ntmps17
  go_wp2_with (first | (go_at_call 24; refine HE.out.mono ?_; rintro e w' ⟨rfl, rfl⟩) | (refine wpList_load_row rfl 43 _ rfl b rfl 43 _ (0, 0) _ HG.out Tryd.underlying43 rfl (by simpa [hsz] using HI43.out) ?_) | (refine wpList_store_row rfl 43 _ _ rfl w.heap.size _ rfl rfl 43 _ (heap_alloc_new _ _) (by simpa [hsz] using HI43.out) (by simp [hsz, hZs]) H1.out ?_))
  clear cL1
  generalize (w.alloc (.cells Z 43)).setRow w.heap.size (hashRow true S B N).toArray = w2 at HH2 HB2 HS2 ⊢
  refine (HP.out w2).mono ?_
  rintro e' w3 ⟨rfl, hb3⟩
  have hw2s : w.heap.size < w2.heap.size := by rw [HS2.out]; omega
  have HB3 : Hid (Below w.heap.size w w3) := HB2.out.trans (hb3.mono (by omega))
  have HPUT := Lib.hid (put16 K I w.heap.size M ⟨(padL N).toArray⟩ w3 (HK.out.below HB3.out (by omega)) (by omega) (HH2.out.below hb3 hw2s) (by
    have h1 : (⟨(padL N).toArray⟩ : ByteArray).size = (padL N).length := rfl
    have h2 := padL_length N
    rw [h1, HN.out]; omega))
  generalize hpl : padL N = pl at HPUT ⊢
  have HPL := Lib.hid hpl
  clear hpl hb3 HB2 HH2 HS2 hw2s HP HG H1
  go_wp2_with fail
  refine HPUT.out.mono ?_
  rintro e' w4 ⟨rfl, hh4, hb4⟩
  have HB4 : Hid (Below w.heap.size w w4) := HB3.out.trans hb4
  obtain ⟨B4, hB4, -, hg4⟩ := hh4.is
  obtain ⟨T, hT⟩ : ∃ T, foldB K I (M ++ pl) = T := ⟨_, rfl⟩
  have hT' : foldB K I (M ++ (⟨pl.toArray⟩ : ByteArray).data.toList) = T := hT
  rw [hT'] at hg4
  have HL := Lib.hid (run_load39 w4 _ _ _ _ _ hg4)
  have HBY := Lib.hid (bytes27 T)
  have HD : Hid (digestM K I M = T.list.flatMap by4) := by
    unfold Hid digestM
    rw [HN.out, HPL.out, hT]
  generalize T.cells = tc at HL HBY
  clear hh4 hb4 hB4 hg4 hT hT' HPUT HB3 HPL HN
  go_wp2_with (first | (refine wpList_load_by rfl 39 _ rfl (.pointer (some ⟨w.heap.size, 1, none⟩)) (.agg tc) rfl HL.out ?_) | (go_at_call 27; refine (HBY.out _).mono ?_; rintro e' w5 ⟨rfl, hb5⟩))
  go_ret
  exact ⟨by rw [HD.out]; rfl, HB4.out.trans (hb5.mono HB4.out.size)⟩
end Go.Proofs.YtpabggcjmaobhaaDoor
