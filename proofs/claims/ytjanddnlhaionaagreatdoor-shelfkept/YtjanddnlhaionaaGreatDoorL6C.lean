/-
  Contracts of text, sectorOf, and the statements' own sector. No condition.
-/
import Derived.Test.YtjanddnlhaionaaGreatDoorL6B
namespace Go.Proofs.YtjanddnlhaionaaGreatDoor.L6
open Go.RowKit

set_option maxRecDepth 100000 in
theorem Tryz.info5 : (Tryz.prog.info? 5).map (fun i => (i.zero, i.size, i.bytes)) = some (some (.int .u8 0), 1, 1) := by kernel_rfl
set_option maxRecDepth 100000 in
theorem info5 : ∃ i, Tryz.prog.info? 5 = some i ∧ i.zero = some (.int .u8 0) ∧ i.size = 1 ∧ i.bytes = 1 := by
  have h := Tryz.info5
  cases hq : Tryz.prog.info? 5 with
  | none => simp [hq] at h
  | some i =>
    simp [hq] at h
    exact ⟨i, rfl, h.1, h.2.1, h.2.2⟩
set_option maxRecDepth 100000 in
theorem size5 : (Tryz.prog.info? 5).map (·.size) = some 1 := by kernel_rfl
set_option maxRecDepth 100000 in
theorem size72 : (Tryz.prog.info? 144).map (·.size) = some 64 := by kernel_rfl
set_option maxRecDepth 100000 in
theorem size74 : (Tryz.prog.info? 146).map (·.size) = some 65 := by kernel_rfl

set_option maxRecDepth 100000 in
theorem strOf_bytes (l : List UInt8) : strOfNums (l.map fun c => (c.toNat : Int)) = ⟨l.toArray⟩ := by
  unfold strOfNums
  congr 1
  rw [List.map_map]
  have : ((fun n : Int => UInt8.ofNat n.toNat) ∘ fun c : UInt8 => (c.toNat : Int)) = id := by
    funext c; simp
  rw [this, List.map_id]
set_option maxRecDepth 100000 in
theorem str_eta (s : ByteArray) : (⟨s.data.toList.toArray⟩ : ByteArray) = s := by cases s; simp

set_option maxRecDepth 100000 in
theorem conv_range (w : World) (g n cap : Nat) (s : ByteArray) (hn : n = s.size) (h : w.rangeAt g 0 (secC s)) :
    (convert 124 9 (.slice (some ⟨g, 0, none⟩) n cap)).run Tryz.prog w = .ok (.string s) w := by
  subst hn
  have hl : s.data.toList.length = s.size := by simp
  have e : s = strOfNums (s.data.toList.map fun c => (c.toNat : Int)) := by rw [strOf_bytes, str_eta]
  have := run_convert_bytes_arg w 124 5 Tryz.underlying124 Tryz.underlying5 g 0 (s.size) cap (s.data.toList.map fun c => (c.toNat : Int)) (by simp) (fun i hi => by
    have hi' : i < s.data.toList.length := by simpa using hi
    exact h i _ (by simp [secC, bytesV, List.getElem?_eq_getElem hi'])) 9 Tryz.underlying9
  rw [← e] at this
  exact this

set_option maxRecDepth 100000 in
theorem range_alloc (w : World) (cs : List Value) (t : TypeId) : (w.alloc (.cells cs.toArray t)).rangeAt w.heap.size 0 cs := by
  intro j v hv
  rw [Nat.zero_add]
  refine cell_row (heap_alloc_new w _) ?_
  simpa using hv

set_option maxRecDepth 100000 in
set_option maxHeartbeats 400000 in
theorem text36 (s : ByteArray) (hs : s.size = 64) (w : World) :
    Calls Tryz.prog 217 #[.agg (secC s).toArray] w fun e w' => e = .returned (.string s) ∧ Below w.heap.size w w' := by
  have hc := conv_range (w.alloc (.cells (secC s).toArray 144)) w.heap.size 64 64 s hs.symm (range_alloc w _ _)
  have hl : (secC s).toArray.size = 64 := by simp [secC_len, hs]
  have hb : Below w.heap.size w (w.alloc (.cells (secC s).toArray 144)) := (Below.refl _ _).alloc (Nat.le_refl _) _
  generalize (secC s).toArray = X at hc hl hb ⊢
  have HB := Lib.hid hb
  clear hb hs
  go_enter Tryz.func217, Tryz.ntmps217
  go_wp2
  go_ret
  exact ⟨rfl, HB.out⟩

/-! ### sectorOf -/
set_option maxRecDepth 100000 in
theorem run_copy_str {P : Program} (w : World) (dT sT ty elem : TypeId) (g o dLen dCap : Nat) (t : ByteArray) (cur : List Value) (tt : TypeId) (n : Nat) (hu : P.underlying dT = some (.slice elem)) (hs : (P.info? elem).map (·.size) = some 1)
    (hn : n = Nat.min t.size dLen) (hg : w.heap[g]? = some (.cells cur.toArray tt (0, 0))) (hfit : o + n ≤ cur.length) :
    (Builtin.copy_ #[dT, sT] ty #[.slice (some ⟨g, o, none⟩) dLen dCap, .string t]).run P w = .ok (.int .i64 (n : Int)) (w.setRow g (cur.take o ++ bytesV (t.data.toList.take n) ++ cur.drop (o + n)).toArray) := by
  have hts : t.data.toList.length = t.size := by simp
  have hnt : n ≤ t.size := by rw [hn]; exact Nat.min_le_left _ _
  have hl : (bytesV (t.data.toList.take n)).length = n := by rw [bytesV_len, List.length_take, hts]; omega
  have hst := run_storeCells_at P g o tt (bytesV (t.data.toList.take n)) 0 cur.toArray w hg (by rw [hl]; simpa using hfit) (bytes_oneCell _)
  cases hq : P.info? elem with
  | none => simp [hq] at hs
  | some i =>
    have hmin : min t.size dLen = n := hn.symm
    have hb : List.map (fun b : UInt8 => Value.int .u8 (b.toNat : Int)) (List.take n t.data.toList) = bytesV (t.data.toList.take n) := rfl
    rw [hl] at hst
    simp [Builtin.copy_, run_underlying hu, Builtin.lenOf, Builtin.firstCells, sizeOf, typeInfo, hq, hmin, goInt]
    rw [← List.map_take, hb]
    simp only [Nat.add_zero] at hst
    rw [hst]
    simp

def z64c : List Value := List.replicate 64 (.int .u8 0)
set_option maxRecDepth 100000 in
theorem zero72 : (∀ w, (zeroValue 144).run Tryz.prog w = .ok (.agg z64c.toArray) w) ∧ (Tryz.prog.info? 144).map (·.size) = some 64 :=
  zero_of_info (by kernel_rfl)

set_option maxRecDepth 100000 in
theorem secC_oneCell (s : ByteArray) : (secC s).toArray.all (·.oneCell') = true := by
  rw [Array.all_eq_true_iff_forall_mem]
  intro v hv
  exact bytes_oneCell _ v (by simpa [secC] using hv)

set_option maxRecDepth 100000 in
set_option maxHeartbeats 800000 in
theorem sectorOf38 (s : ByteArray) (hs : s.size = 64) (w : World) :
    Calls Tryz.prog 214 #[.string s] w fun e w' => e = .returned (.agg (secC s).toArray) ∧ Below w.heap.size w w' := by
  have hz := zero72.1
  have hzl : z64c.length = 64 := by simp [z64c]
  generalize z64c = Z at hz hzl
  have HI72 := Lib.hid size72
  have HI5 := Lib.hid size5
  have hcopy : (Z.take 0 ++ bytesV (s.data.toList.take 64) ++ Z.drop (0 + 64)).toArray = (secC s).toArray := by
    rw [List.take_zero, List.nil_append, List.drop_of_length_le (by omega), List.append_nil, List.take_of_length_le (by simp; omega)]
    rfl
  have HCP := Lib.hid hcopy
  have HL : Hid ((secC s).toArray.size = 64) := by unfold Hid; simp [secC_len, hs]
  have H1 := Lib.hid (secC_oneCell s)
  have HS := Lib.hid hs
  generalize (secC s).toArray = X at HCP HL H1 ⊢
  have HZ := Lib.hid hzl
  clear hcopy hzl hs
  have hg2 : ((w.alloc (.cells Z.toArray 144)).alloc (.cells Z.toArray 144)).heap[w.heap.size + 1]? = some (.cells Z.toArray 144 (0, 0)) := by have := heap_alloc_new (w.alloc (.cells Z.toArray 144)) (.cells Z.toArray 144); simpa using this
  have hg2' : ((w.alloc (.cells Z.toArray 144)).alloc (.cells Z.toArray 144)).heap[w.heap.size]? = some (.cells Z.toArray 144 (0, 0)) := by rw [Below.heap_alloc _ _ _ (by simp)]; exact heap_alloc_new _ _
  have hcp := run_copy_str (P := Tryz.prog) ((w.alloc (.cells Z.toArray 144)).alloc (.cells Z.toArray 144)) 124 9 3 5 (w.heap.size + 1) 0 64 64 s Z 144 64 Tryz.underlying124 HI5.out (by rw [HS.out]; rfl) hg2 (by rw [HZ.out]; omega)
  rw [HCP.out] at hcp
  have HG3 := Lib.hid (setRow_heap _ _ _ X _ _ hg2)
  have HG3' : Hid ((((w.alloc (.cells Z.toArray 144)).alloc (.cells Z.toArray 144)).setRow (w.heap.size + 1) X).heap[w.heap.size]? = some (.cells Z.toArray 144 (0, 0))) := by unfold Hid; rw [setRow_other _ _ _ _ (by omega)]; exact hg2'
  have HB3 : Hid (Below w.heap.size w (((w.alloc (.cells Z.toArray 144)).alloc (.cells Z.toArray 144)).setRow (w.heap.size + 1) X)) := below_setRow (((Below.refl _ _).alloc (Nat.le_refl _) _).alloc (by simp) _) (by omega) _
  generalize ((w.alloc (.cells Z.toArray 144)).alloc (.cells Z.toArray 144)).setRow (w.heap.size + 1) X = w3 at HG3 HG3' HB3 hcp
  have HB4 : Hid (Below w.heap.size w (w3.setRow w.heap.size X)) := below_setRow HB3.out (Nat.le_refl _) _
  have HG4 := Lib.hid (setRow_heap w3 _ _ X _ _ HG3'.out)
  clear hg2 hg2'
  go_enter Tryz.func214, Tryz.ntmps214
  go_wp2_with (first | (refine wpList_load_row rfl 144 _ rfl (w.heap.size + 1) rfl 144 _ (0, 0) _ HG3.out Tryz.underlying144 rfl (by rw [HL.out]; exact HI72.out) ?_) | (refine wpList_store_row rfl 144 _ _ rfl w.heap.size _ rfl rfl 144 _ HG3'.out (by rw [HL.out]; exact HI72.out) (by rw [HL.out]; simpa using HZ.out) H1.out ?_))
  exact bodyPost_ret (v := .agg X) (results_cell_row rfl _ _ w.heap.size 144 X (0, 0) _ rfl HG4.out Tryz.underlying144 rfl (by rw [HL.out]; exact HI72.out)) rfl ⟨rfl, HB4.out⟩

/-! ### The statements' sector -/
def padS (s : ByteArray) : ByteArray := ⟨(s.data.toList.take 64 ++ List.replicate (64 - s.size) 0).toArray⟩
set_option maxRecDepth 100000 in
theorem padS_size (s : ByteArray) : (padS s).size = 64 := by
  show (s.data.toList.take 64 ++ List.replicate (64 - s.size) 0).toArray.size = 64
  simp
  omega
set_option maxRecDepth 100000 in
theorem padS_row (s : ByteArray) : z64c.take 0 ++ bytesV (s.data.toList.take (min s.size 64)) ++ z64c.drop (0 + min s.size 64) = secC (padS s) := by
  have h1 : s.data.toList.take (min s.size 64) = s.data.toList.take 64 := by
    by_cases h : s.size ≤ 64
    · rw [Nat.min_eq_left h, List.take_of_length_le (by simp), List.take_of_length_le (by simpa using h)]
    · rw [Nat.min_eq_right (by omega)]
  rw [h1, List.take_zero, List.nil_append, Nat.zero_add]
  unfold secC padS bytesV z64c
  simp only [List.map_append, List.map_replicate, List.drop_replicate]
  congr 2
  omega
set_option maxRecDepth 100000 in
theorem made64 : (madeCells (Value.int .u8 0).cells (64 * 1)).toList = z64c := by
  rw [show (Value.int .u8 0).cells = #[Value.int .u8 0] from rfl, toList_madeCells_one]; rfl

end Go.Proofs.YtjanddnlhaionaaGreatDoor.L6
