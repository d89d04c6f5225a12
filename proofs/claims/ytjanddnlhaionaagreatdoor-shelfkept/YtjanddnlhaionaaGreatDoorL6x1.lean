/-
  Contract of putNumber. No condition. Contract of parse. No condition. Contract of (sector).text. No condition. Contract of store. No condition. Contracts of visible, Sure, Read. No condition. Contract of Settle. No condition.
-/
import Derived.Test.YtjanddnlhaionaaGreatDoorL6x0
import Derived.Deep.Cut
import Derived.Deep.DeepMust
import Derived.OwnWalk
import Derived.Laws.ResultCell
set_option maxRecDepth 100000
namespace Go.Proofs.YtjanddnlhaionaaGreatDoor.L6
open Go.RowKit

theorem be_step (j N : Nat) (tail : List UInt8) : be (j + 1) N ++ tail = be j (N / 256) ++ (UInt8.ofNat (N % 256) :: tail) := by simp [be]
theorem setRow_cell (w : World) (g o : Nat) (L : List Value) (t : TypeId) (v : Value) (hg : w.heap[g]? = some (.cells L.toArray t (0, 0))) (L' : List Value) (X : Value) (Y Z : List Value) (h1 : L = Y ++ X :: Z) (h2 : L' = Y ++ v :: Z) (ho : o = Y.length) :
    (w.setCell ⟨g, o, none⟩ v).heap[g]? = some (.cells L'.toArray t (0, 0)) := by
  subst h1 h2 ho
  simp [World.setCell, Array.getElem?_modify, hg]

theorem put76 (g o n c : Nat) (cs : List Value) (tt : TypeId) (N : Nat) (w : World) (hg : w.heap[g]? = some (.cells cs.toArray tt (0, 0))) (hfit : o + n ≤ cs.length) (hN : N < 9223372036854775808) (hn : n ≤ 8) :
    Calls Tryz.prog 215 #[.slice (some ⟨g, o, none⟩) n c, .int .i64 (N : Int)] w fun e w' => e = .returned (.tuple #[]) ∧
      w'.heap[g]? = some (.cells (cs.take o ++ bytesV (be n N) ++ cs.drop (o + n)).toArray tt (0, 0)) ∧ Turn (fun k => k = g) w w' ∧ w'.heap.size = w.heap.size := by
  obtain ⟨R, hR⟩ : ∃ R, be n N = R := ⟨_, rfl⟩
  rw [hR]
  have HR := Lib.hid hR
  have HG := Lib.hid hg
  have HF := Lib.hid hfit
  clear hg hR hfit
  go_enter Tryz.func215, Tryz.ntmps215
  go_wp2
  go_loopw [1, 4] (fun s1 s4 wr => ∃ (k : Int) (j M : Nat) (tail : List UInt8), s1 = .int .i64 (M : Int) ∧ s4 = .int .i64 k ∧ k = (j : Int) - 1 ∧ j ≤ n ∧ M < 9223372036854775808 ∧ Hid (be j M ++ tail = R) ∧ Hid (tail.length = n - j) ∧
    Hid (wr.heap[g]? = some (.cells (cs.take (o + j) ++ bytesV tail ++ cs.drop (o + n)).toArray tt (0, 0))) ∧ Hid (Turn (fun k => k = g) w wr) ∧ Hid (wr.heap.size = w.heap.size)) (fun _ s4 _ => (intOf s4 + 1).toNat)
  case atStart =>
    refine ⟨_, n, N, [], rfl, rfl, rfl, Nat.le_refl _, hN, by unfold Hid; rw [List.append_nil]; exact HR.out, by simp [Hid], ?_, Turn.refl _ _, rfl⟩
    unfold Hid
    have : cs.take (o + n) ++ bytesV [] ++ cs.drop (o + n) = cs := by simp [bytesV]
    rw [this]
    exact HG.out
  case round =>
    obtain ⟨k, j, M, tail, rfl, rfl, hk, hj, hM, HB, HT, HW, HTU, HSZ⟩ := hrel
    by_cases h0 : j = 0
    · obtain rfl : k = -1 := by omega
      subst h0
      have hfin : Hid (wr.heap[g]? = some (.cells (cs.take o ++ bytesV R ++ cs.drop (o + n)).toArray tt (0, 0))) := by
        have := HB.out
        simp only [be, List.nil_append] at this
        subst this
        exact HW.out
      clear HB HW hM hk hj
      go_wp2
      go_end0
      exact ⟨rfl, hfin.out, HTU.out, HSZ.out⟩
    · obtain ⟨i, rfl⟩ : ∃ i, j = i + 1 := ⟨j - 1, by omega⟩
      obtain rfl : k = (i : Int) := by omega
      have hlen : o + n ≤ cs.length := HF.out
      obtain ⟨X, hX⟩ : ∃ X, cs[o + i]? = some X := ⟨_, List.getElem?_eq_getElem (by omega)⟩
      have hcut : cs.take (o + (i + 1)) = cs.take (o + i) ++ [X] := by
        rw [show o + (i + 1) = (o + i) + 1 by omega, List.take_add_one, hX]; rfl
      have hc0 : wr.cell? ⟨g, o + i, none⟩ = some X := by
        refine cell_row HW.out ?_
        rw [hcut]
        have hl : (cs.take (o + i)).length = o + i := by rw [List.length_take]; omega
        simp [hl]
      have hfr : wr.frozen? ⟨g, o + i, none⟩ = false := frozen_of_row wr g (o + i) _ _ HW.out
      have HW2 : Hid ((wr.setCell ⟨g, o + i, none⟩ (.int .u8 ((M % 256 : Nat) : Int))).heap[g]? = some (.cells (cs.take (o + i) ++ bytesV (UInt8.ofNat (M % 256) :: tail) ++ cs.drop (o + n)).toArray tt (0, 0))) := by
        refine setRow_cell wr g (o + i) _ tt _ HW.out _ X (cs.take (o + i)) (bytesV tail ++ cs.drop (o + n)) ?_ ?_ ?_
        · rw [hcut]; simp
        · simp [bytesV]
        · rw [List.length_take]; omega
      have HTU2 : Hid (Turn (fun k => k = g) w (wr.setCell ⟨g, o + i, none⟩ (.int .u8 ((M % 256 : Nat) : Int)))) := HTU.out.setCell _ _ (.inl rfl)
      have HSZ2 : Hid ((wr.setCell ⟨g, o + i, none⟩ (.int .u8 ((M % 256 : Nat) : Int))).heap.size = w.heap.size) := by unfold Hid; rw [← HSZ.out]; simp [World.setCell]
      have HB2 : Hid (be i (M / 256) ++ (UInt8.ofNat (M % 256) :: tail) = R) := by unfold Hid; rw [← be_step]; exact HB.out
      have HT2 : Hid ((UInt8.ofNat (M % 256) :: tail).length = n - i) := by unfold Hid; have := HT.out; simp; omega
      have hin : (i : Int) < (n : Int) := by omega
      obtain ⟨m, hm⟩ : ∃ m, M % 256 = m := ⟨_, rfl⟩
      obtain ⟨q, hq⟩ : ∃ q, M / 256 = q := ⟨_, rfl⟩
      rw [hm] at HW2 HTU2 HSZ2 HB2 HT2
      rw [hq] at HB2
      have em : IntKind.u8.wrap (M : Int) = (m : Int) := by rw [IntKind.wrap_u8]; omega
      have eq : (M : Int) / 256 = (q : Int) := by omega
      have hq2 : q < 9223372036854775808 := by omega
      clear HB HT HW HTU HSZ hcut hX HG HF h0 hk hm hq hM
      go_wp2
      go_round
      case rel => exact ⟨(i : Int) - 1, i, q, _, by go_num, by go_num, rfl, by omega, hq2, HB2, HT2, HW2, HTU2, HSZ2⟩
      case measure => simp [intOf]
end Go.Proofs.YtjanddnlhaionaaGreatDoor.L6
namespace Go.Proofs.YtjanddnlhaionaaGreatDoor.L6
open Go.RowKit

theorem below_drewN {B : Nat} {a b : World} (h : Below B a b) (n : Nat) : Below B a (b.drewN n) := ⟨h.os, h.tape, h.output, h.size, h.block⟩
def secV (s : Sec) : Array Value := #[.int .i64 (s.life : Int), .int .i64 (s.record : Int), .int .i64 (s.part : Int), .bool s.last, .string (mkB s.data)]
def zeroS : Sec := ⟨0, 0, 0, false, []⟩
def parseS (l : List UInt8) : Sec := (says l).getD zeroS
def parseB (l : List UInt8) : Bool := (says l).isSome
theorem Tryz.z112' : (∀ w, (zeroValue 289).run Tryz.prog w = .ok (.agg #[.int .i64 0, .int .i64 0, .int .i64 0, .bool false, .string ⟨#[]⟩]) w) ∧ (Tryz.prog.info? 289).map (·.size) = some 5 := zero_of_info (by kernel_rfl)
theorem Tryz.z112 : ∀ w, (zeroValue 289).run Tryz.prog w = .ok (.agg #[.int .i64 0, .int .i64 0, .int .i64 0, .bool false, .string ⟨#[]⟩]) w := Tryz.z112'.1
theorem results_row_tmp {P : Program} {fn : Func} {p u : Tmp} {ty : TypeId} (h : fn.results = #[.cell p ty, .tmp u]) (tmps : Array Value) (w : World) (g : Nat) (t : TypeId) (cs : Array Value) (fr : Nat × Nat) (d : TypeDesc)
    (hp : tmps.getD p undef = .pointer (some ⟨g, 0, none⟩)) (hg : w.heap[g]? = some (.cells cs t fr))
    (hu : P.underlying ty = some d) (hd : (match d with | .struct _ | .array _ _ => true | _ => false) = true) (hi : (P.info? ty).map (·.size) = some cs.size) :
    (results fn tmps).run P w = .ok (.tuple #[.agg cs, tmps.getD u undef]) w := by
  rw [results_cell_tmp h, hp]
  simp [asAddr, run_loadVar_row w g t ty cs fr d hg hu hd hi, Result.andThen]

set_option maxHeartbeats 1000000 in
theorem parse59_bad (s : ByteArray) (hs : s.size = 64) (w : World) (hb : badSize s.data.toList = true) :
    Calls Tryz.prog 194 #[.string s] w fun e w' => e = .returned (.tuple #[.agg (secV zeroS), .bool false]) ∧ Below w.heap.size w w' := by
  have h10 : 10 < s.size := by omega
  obtain ⟨m, hm⟩ : ∃ m, (s[10]'h10).toNat = m := ⟨_, rfl⟩
  have hg : (s.data.toList.getD 10 0).toNat = m := by
    rw [← hm, List.getD_eq_getElem?_getD, List.getElem?_eq_getElem (by rw [len_list]; exact h10)]; rfl
  have hi : ∀ W, (Instr.index 9 (.string s) (.int .i64 10)).run Tryz.prog W = .ok (.int .u8 (m : Int)) W := by
    intro W
    go_simp
  unfold badSize sizeOfS isLast at hb
  rw [hg] at hb
  have HS := Lib.hid hs
  have hm2 : m < 256 := by rw [← hm]; exact (s[10]'h10).toNat_lt
  clear hs h10 hm hg
  have HG := Lib.hid (heap_alloc_new w (.cells #[.int .i64 0, .int .i64 0, .int .i64 0, .bool false, .string ⟨#[]⟩] 289))
  have HB : Hid (Below w.heap.size w (w.alloc (.cells #[.int .i64 0, .int .i64 0, .int .i64 0, .bool false, .string ⟨#[]⟩] 289))) := (Below.refl _ _).alloc (Nat.le_refl _) _
  have hz := Tryz.z112
  by_cases h1 : 51 < m % 128
  · have t1 : decide (51 < ((m : Int) % 128)) = true := decide_eq_true (by omega)
    clear hb
    go_enter Tryz.func194, Tryz.ntmps194
    go_wp2
    exact bodyPost_ret (results_row_tmp rfl _ _ w.heap.size 289 _ (0, 0) _ rfl HG.out Tryz.underlying289 rfl Tryz.z112'.2) rfl ⟨rfl, HB.out⟩
  · have t1 : decide (51 < ((m : Int) % 128)) = false := decide_eq_false (by omega)
    have h2 : m % 128 < 51 ∧ m < 128 := by simpa [h1] using hb
    have t2 : decide (((m : Int) % 128) < 51) = true := decide_eq_true (by omega)
    have t3 : decide (128 ≤ (m : Int)) = false := decide_eq_false (by omega)
    clear hb h2 h1
    go_enter Tryz.func194, Tryz.ntmps194
    go_wp2
    exact bodyPost_ret (results_row_tmp rfl _ _ w.heap.size 289 _ (0, 0) _ rfl HG.out Tryz.underlying289 rfl Tryz.z112'.2) rfl ⟨rfl, HB.out⟩

set_option maxHeartbeats 4000000 in
theorem parse59_good (s : ByteArray) (hs : s.size = 64) (w : World) (hb : badSize s.data.toList = false) :
    Calls Tryz.prog 194 #[.string s] w fun e w' => e = .returned (.tuple #[.agg (if isValid s.data.toList then secV (secOf s.data.toList) else secV zeroS), .bool (isValid s.data.toList)]) ∧ Below w.heap.size w w' := by
  have h10 : 10 < s.size := by omega
  obtain ⟨m, hm⟩ : ∃ m, (s[10]'h10).toNat = m := ⟨_, rfl⟩
  have hg : (s.data.toList.getD 10 0).toNat = m := by
    rw [← hm, List.getD_eq_getElem?_getD, List.getElem?_eq_getElem (by rw [len_list]; exact h10)]; rfl
  have hi : ∀ W, (Instr.index 9 (.string s) (.int .i64 10)).run Tryz.prog W = .ok (.int .u8 (m : Int)) W := by
    intro W
    go_simp
  have hm2 : m < 256 := by rw [← hm]; exact (s[10]'h10).toNat_lt
  clear hm h10
  obtain ⟨sz, hsz⟩ : ∃ sz, sizeOfS s.data.toList = sz := ⟨_, rfl⟩
  obtain ⟨la, hla⟩ : ∃ la, isLast s.data.toList = la := ⟨_, rfl⟩
  have hsm : m % 128 = sz := by rw [← hsz, ← hg]; rfl
  have hlm : decide (128 ≤ (m : Int)) = la := by rw [← hla]; unfold isLast; rw [hg, decide_eq_decide]; omega
  have hsm' : (m : Int) % 128 = sz := by omega
  have hle : sz ≤ 51 ∧ (la = false → sz = 51) := by
    unfold badSize at hb
    rw [hsz, hla] at hb
    cases la <;> simp at hb ⊢ <;> omega
  obtain ⟨hle1, hle2⟩ := hle
  have t1 : decide (51 < (sz : Int)) = false := decide_eq_false (by omega)
  have N1 := fun w => number71 (s.extract 0 4) (by rw [ByteArray.size_extract]; omega) w
  have N2 := fun w => number71 (s.extract 4 8) (by rw [ByteArray.size_extract]; omega) w
  have N3 := fun w => number71 (s.extract 8 10) (by rw [ByteArray.size_extract]; omega) w
  have N4 := fun w => number71 (s.extract 62 64) (by rw [ByteArray.size_extract]; omega) w
  have C5 := fun w => checksum72 (s.extract 0 62) (by rw [ByteArray.size_extract]; omega) w
  have T6 := fun w => trim73 (s.extract (11 + sz) 62) (by rw [ByteArray.size_extract]; omega) w
  have e1 : (s.extract 0 4).data.toList = s.data.toList.take 4 := by rw [ext_list, List.drop_zero]
  have e2 : (s.extract 4 8).data.toList = (s.data.toList.drop 4).take 4 := by rw [ext_list, List.drop_take]
  have e3 : (s.extract 8 10).data.toList = (s.data.toList.drop 8).take 2 := by rw [ext_list, List.drop_take]
  have e4 : (s.extract 62 64).data.toList = s.data.toList.drop 62 := by rw [ext_list, List.take_of_length_le (by rw [len_list]; omega)]
  have e5 : (s.extract 0 62).data.toList = s.data.toList.take 62 := by rw [ext_list, List.drop_zero]
  have e6 : (s.extract (11 + sz) 62).data.toList = restOf s.data.toList := by rw [ext_list, List.drop_take]; unfold restOf; rw [hsz, show 62 - (11 + sz) = 51 - sz by omega]
  have e7 : s.extract 11 (11 + sz) = mkB ((s.data.toList.drop 11).take sz) := eq_mkB (by rw [ext_list, List.drop_take, show 11 + sz - 11 = sz by omega])
  have e8 := trimB_empty (s.extract (11 + sz) 62)
  rw [e6] at e8
  rw [e1] at N1
  rw [e2] at N2
  rw [e3] at N3
  rw [e4] at N4
  rw [e5] at C5
  clear e1 e2 e3 e4 e5 e6
  have hsec : secV (secOf s.data.toList) = #[.int .i64 ((num (s.data.toList.take 4) : Nat) : Int), .int .i64 ((num ((s.data.toList.drop 4).take 4) : Nat) : Int), .int .i64 ((num ((s.data.toList.drop 8).take 2) : Nat) : Int), .bool la, .string (s.extract 11 (11 + sz))] := by
    rw [e7]; unfold secV secOf; rw [hsz, hla]
  have hval : isValid s.data.toList = (decide (0 < num (s.data.toList.take 4)) && decide (num (s.data.toList.drop 62) = wt 0 (s.data.toList.take 62) % 65521) && (trimB (s.extract (11 + sz) 62)).toList.isEmpty) := by
    rw [e8]; rfl
  rw [hsec, hval]
  clear e7 e8 hsec hval hsz hla hg hb
  generalize num (s.data.toList.take 4) = a1 at N1 ⊢
  generalize num ((s.data.toList.drop 4).take 4) = a2 at N2 ⊢
  generalize num ((s.data.toList.drop 8).take 2) = a3 at N3 ⊢
  generalize num (s.data.toList.drop 62) = a4 at N4 ⊢
  generalize wt 0 (s.data.toList.take 62) % 65521 = a5 at C5 ⊢
  generalize trimB (s.extract (11 + sz) 62) = a6 at T6 ⊢
  have HN1 := Lib.hid N1
  have HN2 := Lib.hid N2
  have HN3 := Lib.hid N3
  have HN4 := Lib.hid N4
  have HC5 := Lib.hid C5
  have HT6 := Lib.hid T6
  clear N1 N2 N3 N4 C5 T6
  have hz := Tryz.z112
  have x11 : IntKind.i64.wrap (11 + (sz : Int)) = ((11 + sz : Nat) : Int) := by clear hsm hsm' hm2 hlm; rw [IntKind.wrap_i64]; omega
  have hs1 : ∀ W, (Instr.slice 9 (.string s) (some (.int .i64 11)) (some (.int .i64 (11 + (sz : Int)))) none).run Tryz.prog W = .ok (.string (s.extract 11 (11 + sz))) W := fun W => slice_str s 11 (11 + sz) (by omega) (by omega) _ _ rfl (by omega) W
  have hs2 : ∀ W, (Instr.slice 9 (.string s) (some (.int .i64 (11 + (sz : Int)))) (some (.int .i64 62)) none).run Tryz.prog W = .ok (.string (s.extract (11 + sz) 62)) W := fun W => slice_str s (11 + sz) 62 (by omega) (by omega) _ _ (by omega) rfl W
  clear hsm
  obtain ⟨q, hq⟩ : ∃ q, (decide (0 < a1) && decide (a4 = a5) && a6.toList.isEmpty) = q := ⟨_, rfl⟩
  rw [hq]
  have HQ := Lib.hid hq
  clear hq
  obtain ⟨X, hX⟩ : ∃ X : Array Value, X = #[.int .i64 (a1 : Int), .int .i64 (a2 : Int), .int .i64 (a3 : Int), .bool la, .string (s.extract 11 (11 + sz))] := ⟨_, rfl⟩
  rw [← hX]
  have HX := Lib.hid hX
  clear hX
  obtain ⟨w1, hw1⟩ : ∃ w1, w.alloc (.cells #[.int .i64 0, .int .i64 0, .int .i64 0, .bool false, .string ⟨#[]⟩] 289) = w1 := ⟨_, rfl⟩
  have HW1 := Lib.hid hw1
  go_enter Tryz.func194, Tryz.ntmps194
  go_upto_region 3 with (fail)
  clear hw1
  go_cut [25] from 9 (fun s25 wx => s25 = .bool false ∧ w1 = wx)
  case first =>
    cases la with
    | true =>
      by_cases hlt : sz < 51
      · have t2 : decide ((sz : Int) < 51) = true := decide_eq_true (by omega)
        go_wp2_with fail
        go_meet
        case rel => exact ⟨rfl, rfl⟩
      · have t2 : decide ((sz : Int) < 51) = false := decide_eq_false (by omega)
        go_wp2_with fail
        go_meet
        case rel => exact ⟨rfl, rfl⟩
    | false =>
      have t2 : decide ((sz : Int) < 51) = false := decide_eq_false (by have := hle2 rfl; omega)
      clear hle2
      go_wp2_with fail
      go_meet
      case rel => exact ⟨rfl, rfl⟩
  case rest =>
    obtain ⟨rfl, rfl⟩ := hcut
    have HSZ : Hid (w1.heap.size = w.heap.size + 1) := by unfold Hid; rw [← HW1.out]; simp
    go_wp2_with fail
    go_cut [6] from 9 (fun s6 wx => s6 = .pointer (some ⟨w1.heap.size, 0, none⟩) ∧ (w1.alloc (.cells X 289)).drew = wx)
    case first =>
      go_region_held3 (fun _ => True) (trivial) ((go_at_call 209; (first | (with_reducible refine (HN1.out _).mono ?_) | (with_reducible refine (HN2.out _).mono ?_) | (with_reducible refine (HN3.out _).mono ?_)); rintro e w' ⟨rfl, rfl⟩))
      all_goals
        go_wp2_with fail
        go_meet
        case rel => exact ⟨rfl, by rw [HX.out]⟩
    case rest =>
      obtain ⟨rfl, rfl⟩ := hcut
      have HG2 : Hid ((w1.alloc (.cells X 289)).drew.heap[w1.heap.size]? = some (.cells X 289 (0, 0))) := heap_alloc_new _ _
      have HG1 : Hid ((w1.alloc (.cells X 289)).drew.heap[w.heap.size]? = some (.cells #[.int .i64 0, .int .i64 0, .int .i64 0, .bool false, .string ⟨#[]⟩] 289 (0, 0))) := by
        refine (Below.heap_alloc w1 (.cells X 289) w.heap.size (by have := HSZ.out; omega)).trans ?_
        rw [← HW1.out]; exact heap_alloc_new _ _
      have c0 : (w1.alloc (.cells X 289)).drew.cell? ⟨w1.heap.size, 0, none⟩ = some (.int .i64 (a1 : Int)) := cell_row HG2.out (by rw [HX.out]; rfl)
      have HB2 : Hid (Below w.heap.size w (w1.alloc (.cells X 289)).drew) := by
        have h1 : Below w.heap.size w w1 := by rw [← HW1.out]; exact (Below.refl _ _).alloc (Nat.le_refl _) _
        exact (h1.alloc (by have := HSZ.out; omega) _).drew
      have HI := Lib.hid Tryz.z112'.2
      have HXS : Hid (X.size = 5) := by unfold Hid; rw [HX.out]; rfl
      have HX1 : Hid (X.all (·.oneCell') = true) := by unfold Hid; rw [HX.out]; simp [Value.oneCell']
      have HZ1 : Hid ((#[.int .i64 0, .int .i64 0, .int .i64 0, .bool false, .string ⟨#[]⟩] : Array Value).all (·.oneCell') = true) := by unfold Hid; simp [Value.oneCell']
      clear HX HW1 HSZ HN1 HN2 HN3
      generalize (w1.alloc (.cells X 289)).drew = w2 at HG2 HG1 c0 HB2
      by_cases v1 : 0 < a1
      · have u1 : decide (0 < a1) = true := decide_eq_true v1
        by_cases v2 : a4 = a5
        · have u2 : ((a4 : Int) == (a5 : Int)) = true := by rw [v2]; simp
          have u2' : (a4 == a5) = true := by rw [v2]; simp
          cases v3 : a6.toList.isEmpty with
          | true =>
            have e : q = true := by rw [← HQ.out, v3]; simp [v1, v2]
            subst e
            clear HQ v1
            go_wp2_with fail
            go_quiet (first | (go_at_call 209; exact quietS (HN4.out _)) | (go_at_call 210; exact quietS (HC5.out _)) | (go_at_call 211; exact Calls.quiet_of (HT6.out _)))
            go_wp2_with (first | (refine wpList_load_row rfl 289 _ rfl w1.heap.size rfl 289 X (0, 0) _ HG2.out Tryz.underlying289 rfl (by rw [HXS.out]; exact HI.out) ?_) | (refine wpList_store_row rfl 289 _ _ rfl w.heap.size X rfl rfl 289 _ HG1.out (by rw [HXS.out]; exact HI.out) (by rw [HXS.out]; rfl) HX1.out ?_))
            exact bodyPost_ret (results_row_tmp rfl _ _ w.heap.size 289 _ (0, 0) _ rfl (setRow_heap _ _ _ _ _ _ HG1.out) Tryz.underlying289 rfl (by rw [HXS.out]; exact HI.out)) rfl ⟨rfl, (below_setRow (below_drewN HB2.out _) (Nat.le_refl _) _)⟩
          | false =>
            have e : q = false := by rw [← HQ.out, v3]; simp
            subst e
            clear HQ v1
            go_wp2_with fail
            go_quiet (first | (go_at_call 209; exact quietS (HN4.out _)) | (go_at_call 210; exact quietS (HC5.out _)) | (go_at_call 211; exact Calls.quiet_of (HT6.out _)))
            go_wp2_with (first | (refine wpList_store_row rfl 289 _ _ rfl w.heap.size #[.int .i64 0, .int .i64 0, .int .i64 0, .bool false, .string ⟨#[]⟩] rfl rfl 289 _ HG1.out HI.out rfl HZ1.out ?_))
            exact bodyPost_ret (results_row_tmp rfl _ _ w.heap.size 289 #[.int .i64 0, .int .i64 0, .int .i64 0, .bool false, .string ⟨#[]⟩] (0, 0) _ rfl (setRow_heap _ _ _ _ _ _ HG1.out) Tryz.underlying289 rfl HI.out) rfl ⟨rfl, (below_setRow (below_drewN HB2.out _) (Nat.le_refl _) _)⟩
        · have u2 : ((a4 : Int) == (a5 : Int)) = false := by rw [beq_eq_false_iff_ne]; omega
          have u2' : (a4 == a5) = false := by rw [beq_eq_false_iff_ne]; omega
          have e : q = false := by rw [← HQ.out]; simp [v2]
          subst e
          clear HQ v1
          go_wp2_with fail
          go_quiet (first | (go_at_call 209; exact quietS (HN4.out _)) | (go_at_call 210; exact quietS (HC5.out _)) | (go_at_call 211; exact Calls.quiet_of (HT6.out _)))
          go_wp2_with (first | (refine wpList_store_row rfl 289 _ _ rfl w.heap.size #[.int .i64 0, .int .i64 0, .int .i64 0, .bool false, .string ⟨#[]⟩] rfl rfl 289 _ HG1.out HI.out rfl HZ1.out ?_))
          exact bodyPost_ret (results_row_tmp rfl _ _ w.heap.size 289 #[.int .i64 0, .int .i64 0, .int .i64 0, .bool false, .string ⟨#[]⟩] (0, 0) _ rfl (setRow_heap _ _ _ _ _ _ HG1.out) Tryz.underlying289 rfl HI.out) rfl ⟨rfl, (below_setRow (below_drewN HB2.out _) (Nat.le_refl _) _)⟩
      · have u1 : decide (0 < a1) = false := decide_eq_false v1
        have e : q = false := by rw [← HQ.out]; simp [v1]
        subst e
        clear HQ v1
        go_wp2_with fail
        go_quiet (first | (go_at_call 209; exact quietS (HN4.out _)) | (go_at_call 210; exact quietS (HC5.out _)) | (go_at_call 211; exact Calls.quiet_of (HT6.out _)))
        go_wp2_with (first | (refine wpList_store_row rfl 289 _ _ rfl w.heap.size #[.int .i64 0, .int .i64 0, .int .i64 0, .bool false, .string ⟨#[]⟩] rfl rfl 289 _ HG1.out HI.out rfl HZ1.out ?_))
        exact bodyPost_ret (results_row_tmp rfl _ _ w.heap.size 289 #[.int .i64 0, .int .i64 0, .int .i64 0, .bool false, .string ⟨#[]⟩] (0, 0) _ rfl (setRow_heap _ _ _ _ _ _ HG1.out) Tryz.underlying289 rfl HI.out) rfl ⟨rfl, (below_setRow (below_drewN HB2.out _) (Nat.le_refl _) _)⟩
theorem parse59 (s : ByteArray) (hs : s.size = 64) (w : World) :
    Calls Tryz.prog 194 #[.string s] w fun e w' => e = .returned (.tuple #[.agg (secV (parseS s.data.toList)), .bool (parseB s.data.toList)]) ∧ Below w.heap.size w w' := by
  unfold parseS parseB says
  cases hb : badSize s.data.toList with
  | true => exact parse59_bad s hs w hb
  | false =>
    have h := parse59_good s hs w hb
    cases hv : isValid s.data.toList with
    | true => rw [hv] at h; exact h
    | false => rw [hv] at h; exact h
end Go.Proofs.YtjanddnlhaionaaGreatDoor.L6
namespace Go.Proofs.YtjanddnlhaionaaGreatDoor.L6
open Go.RowKit

theorem bytesV_append (a b : List UInt8) : bytesV (a ++ b) = bytesV a ++ bytesV b := by simp [bytesV]
theorem bytesV_take (a : List UInt8) (n : Nat) : (bytesV a).take n = bytesV (a.take n) := by simp [bytesV, List.map_take]
theorem bytesV_drop (a : List UInt8) (n : Nat) : (bytesV a).drop n = bytesV (a.drop n) := by simp [bytesV, List.map_drop]
theorem lay_in (A X : List UInt8) (m : Nat) (o n : Nat) (ho : o = A.length) (hn : n = X.length) :
    (bytesV (A ++ List.replicate m 0)).take o ++ bytesV X ++ (bytesV (A ++ List.replicate m 0)).drop (o + n) = bytesV ((A ++ X) ++ List.replicate (m - n) 0) := by
  subst ho hn
  rw [bytesV_take, bytesV_drop, ← bytesV_append, ← bytesV_append, List.take_left, ← List.drop_drop, List.drop_left, List.drop_replicate]
theorem zero96' : (∀ w, (zeroValue 143).run Tryz.prog w = .ok (.agg z64c.toArray) w) ∧ (Tryz.prog.info? 143).map (·.size) = some 64 :=
  zero_of_info (by kernel_rfl)
theorem z64c_bytes : z64c = bytesV ([] ++ List.replicate 64 0) := by simp [z64c, bytesV]

/-- The sector and the array under way. -/
structure TX (w : World) (x : Sec) (B : List UInt8) (W : World) : Prop where
  s : W.heap[w.heap.size]? = some (.cells (secV x) 289 (0, 0))
  a : W.heap[w.heap.size + 1]? = some (.cells (bytesV B).toArray 143 (0, 0))
  b : Below w.heap.size w W
theorem TX.put {w : World} {x : Sec} {B : List UInt8} {W W' : World} (h : TX w x B W) (ht : Turn (fun k => k = w.heap.size + 1) W W') {B' : List UInt8} (ha : W'.heap[w.heap.size + 1]? = some (.cells (bytesV B').toArray 143 (0, 0))) : TX w x B' W' := by
  have hlt : w.heap.size + 1 < W.heap.size := (Array.getElem?_eq_some_iff.1 h.a).1
  exact ⟨by rw [ht.block _ (by omega) (by omega)]; exact h.s, ha, h.b.trans (ht.below w.heap.size (by omega) (fun k hk => by omega))⟩
theorem TX.drew {w : World} {x : Sec} {B : List UInt8} {W : World} (h : TX w x B W) : TX w x B W.drew := ⟨h.s, h.a, h.b.drew⟩
theorem TX.set {w : World} {x : Sec} {B : List UInt8} {W : World} (h : TX w x B W) (Y : List UInt8) (c0 c : UInt8) (Z : List UInt8) (hB : B = Y ++ c0 :: Z) (o : Nat) (ho : o = Y.length) (u : Int) (hu : u = (c.toNat : Int)) : TX w x (Y ++ c :: Z) (W.setCell ⟨w.heap.size + 1, o, none⟩ (.int .u8 u)) := by
  subst hB ho hu
  refine h.put ((Turn.refl _ _).setCell _ _ (.inl rfl)) ?_
  exact setRow_cell W _ _ _ 143 _ h.a _ (.int .u8 (c0.toNat : Int)) (bytesV Y) (bytesV Z) (by simp [bytesV]) (by simp [bytesV]) (by simp [bytesV])
theorem TX.c {w : World} {x : Sec} {B : List UInt8} {W : World} (h : TX w x B W) :
    W.cell? ⟨w.heap.size, 0, none⟩ = some (.int .i64 (x.life : Int)) ∧ W.cell? ⟨w.heap.size, 1, none⟩ = some (.int .i64 (x.record : Int)) ∧ W.cell? ⟨w.heap.size, 2, none⟩ = some (.int .i64 (x.part : Int)) ∧ W.cell? ⟨w.heap.size, 3, none⟩ = some (.bool x.last) ∧ W.cell? ⟨w.heap.size, 4, none⟩ = some (.string (mkB x.data)) :=
  ⟨cell_row h.s rfl, cell_row h.s rfl, cell_row h.s rfl, cell_row h.s rfl, cell_row h.s rfl⟩
/-- putNumber into the array. -/
theorem TX.put76 {w : World} {x : Sec} {A : List UInt8} {m : Nat} {W : World} (h : TX w x (A ++ List.replicate m 0) W) (o n c N : Nat) (ho : o = A.length) (hn : n ≤ m) (hn8 : n ≤ 8) (hN : N < 9223372036854775808) :
    Calls Tryz.prog 215 #[.slice (some ⟨w.heap.size + 1, o, none⟩) n c, .int .i64 (N : Int)] W fun e W' => e = .returned (.tuple #[]) ∧ TX w x ((A ++ be n N) ++ List.replicate (m - n) 0) W' := by
  refine (L6.put76 (w.heap.size + 1) o n c _ 143 N W h.a (by simp [bytesV_len]; omega) hN hn8).mono ?_
  rintro e W' ⟨rfl, ha, ht, -⟩
  refine ⟨rfl, h.put ht ?_⟩
  rw [ha, lay_in A (be n N) m o n ho (by rw [be_len])]

set_option maxHeartbeats 2000000 in
theorem text66 (x : Sec) (hd : x.data.length ≤ 51) (h1 : x.life < 9223372036854775808) (h2 : x.record < 9223372036854775808) (h3 : x.part < 9223372036854775808) (w : World) :
    Calls Tryz.prog 200 #[.agg (secV x)] w fun e w' => e = .returned (.string (layB x)) ∧ Below w.heap.size w w' := by
  have hz := zero96'.1
  have hT0 : TX w x ([] ++ List.replicate 64 0) ((w.alloc (.cells (secV x) 289)).alloc (.cells z64c.toArray 143)) := by
    refine ⟨?_, ?_, ((Below.refl _ _).alloc (Nat.le_refl _) _).alloc (by simp) _⟩
    · rw [Below.heap_alloc _ _ _ (by simp)]; exact heap_alloc_new _ _
    · rw [← z64c_bytes]; have := heap_alloc_new (w.alloc (.cells (secV x) 289)) (.cells z64c.toArray 143); simpa using this
  have HT0 := Lib.hid hT0
  clear hT0
  obtain ⟨Z, hZ⟩ : ∃ Z, z64c.toArray = Z := ⟨_, rfl⟩
  obtain ⟨X, hX⟩ : ∃ X, secV x = X := ⟨_, rfl⟩
  rw [hZ] at hz HT0
  rw [hX] at HT0 ⊢
  clear hZ hX
  go_enter Tryz.func200, Tryz.ntmps200
  go_upto_region 2 with (fail)
  generalize hW1 : (w.alloc (.cells X 289)).alloc (.cells Z 143) = w1 at HT0
  clear hW1
  have hc := HT0.out.c
  obtain ⟨c0, c1, c2, c3, c4⟩ := hc
  go_still_tail 3, (by kernel_rfl)
  change wpList _ _ _ _ _ (World.drew _)
  have HP := Lib.hid (HT0.out.drew.put76 0 4 64 x.life rfl (by omega) (by omega) h1)
  go_wp2_with fail
  refine HP.out.mono ?_
  rintro e w2 ⟨rfl, hT⟩
  have HT1 := Lib.hid hT
  clear hT HP HT0 c0 c1 c2 c3 c4
  obtain ⟨c0, c1, c2, c3, c4⟩ := HT1.out.c
  go_upto_region 3 with fail
  go_still_tail 3, (by kernel_rfl)
  change wpList _ _ _ _ _ (World.drew _)
  have HP := Lib.hid (HT1.out.drew.put76 4 4 60 x.record (by simp [be_len]) (by omega) (by omega) h2)
  go_wp2_with fail
  refine HP.out.mono ?_
  rintro e w3 ⟨rfl, hT⟩
  have HT2 := Lib.hid hT
  clear hT HP HT1 c0 c1 c2 c3 c4
  obtain ⟨c0, c1, c2, c3, c4⟩ := HT2.out.c
  go_upto_region 4 with fail
  go_still_tail 3, (by kernel_rfl)
  change wpList _ _ _ _ _ (World.drew _)
  have HP := Lib.hid (HT2.out.drew.put76 8 2 56 x.part (by simp [be_len]) (by omega) (by omega) h3)
  go_wp2_with fail
  refine HP.out.mono ?_
  rintro e w4 ⟨rfl, hT⟩
  have HT3 := Lib.hid hT
  clear hT HP HT2 c0 c1 c2 c3 c4
  obtain ⟨c0, c1, c2, c3, c4⟩ := HT3.out.c
  obtain ⟨A, hA⟩ : ∃ A, ([] ++ be 4 x.life ++ be 4 x.record ++ be 2 x.part) = A := ⟨_, rfl⟩
  rw [hA] at HT3
  have HAL : Hid (A.length = 10) := by unfold Hid; rw [← hA]; simp [be_len]
  have HA := Lib.hid hA
  clear hA
  have hz10 : w4.cell? ⟨w.heap.size + 1, 10, none⟩ = some (.int .u8 0) := by
    refine cell_row HT3.out.a ?_
    simp [bytesV, HAL.out]
  have hf10 : w4.frozen? ⟨w.heap.size + 1, 10, none⟩ = false := frozen_of_row _ _ _ _ _ HT3.out.a
  have hsz : (mkB x.data).size = x.data.length := mkB_size _
  obtain ⟨n, hn⟩ : ∃ n, x.data.length = n := ⟨_, rfl⟩
  rw [hn] at hsz hd
  have HN := Lib.hid hn
  have HT4 : Hid (TX w x (A ++ UInt8.ofNat n :: List.replicate 53 0) (w4.setCell ⟨w.heap.size + 1, 10, none⟩ (.int .u8 (n : Int)))) :=
    HT3.out.set A 0 _ _ rfl 10 HAL.out.symm _ (by simp; omega)
  have HFIN : Hid (x.last = true → TX w x (A ++ UInt8.ofNat (markOf x) :: List.replicate 53 0) ((w4.setCell ⟨w.heap.size + 1, 10, none⟩ (.int .u8 (n : Int))).setCell ⟨w.heap.size + 1, 10, none⟩ (.int .u8 ((n : Int) + 128)))) := fun hl =>
    HT4.out.set A (UInt8.ofNat n) _ _ rfl 10 HAL.out.symm _ (by
      have : markOf x = n + 128 := by unfold markOf; rw [HN.out, hl]; rfl
      rw [this]; simp; omega)
  have HFIN0 : Hid (x.last = false → A ++ UInt8.ofNat n :: List.replicate 53 0 = A ++ UInt8.ofNat (markOf x) :: List.replicate 53 0) := fun hl => by
    have : markOf x = n := by unfold markOf; rw [HN.out, hl]; rfl
    rw [this]
  clear hn
  go_upto_if 22 with fail
  go_cut [] from 4 (fun wx => TX w x (A ++ UInt8.ofNat (markOf x) :: List.replicate 53 0) wx)
  case first =>
    cases hl : x.last with
    | true =>
      have HX := Lib.hid (HFIN.out hl)
      clear HFIN HFIN0 HT3
      go_wp2_with fail
      go_meet
      case rel => exact HX.out
    | false =>
      have HX := Lib.hid HT4.out
      rw [HFIN0.out hl] at HX
      clear HFIN HFIN0 HT3
      go_wp2_with fail
      go_meet
      case rel => exact HX.out
  case rest =>
    have HC := Lib.hid hcut
    clear hcut HT4 HT3 HFIN HFIN0 hz10 hf10 c0 c1 c2 c3 c4
    obtain ⟨c0, c1, c2, c3, c4⟩ := HC.out.c
    obtain ⟨M, hM⟩ : ∃ M, A ++ [UInt8.ofNat (markOf x)] = M := ⟨_, rfl⟩
    have HML : Hid (M.length = 11) := by unfold Hid; rw [← hM, List.length_append, HAL.out]; rfl
    have HC2 : Hid (TX w x (M ++ List.replicate 53 0) wc) := by unfold Hid; rw [← hM]; have := HC.out; simpa using this
    have HM := Lib.hid hM
    have HNN : Hid (x.data.length = n) := HN.out
    have HCP := Lib.hid (run_copy_str (P := Tryz.prog) wc.drew 124 9 3 5 (w.heap.size + 1) 11 51 53 (mkB x.data) (bytesV (M ++ List.replicate 53 0)) 143 n Tryz.underlying124 size5 (by rw [hsz]; exact (Nat.min_eq_left hd).symm) HC2.out.drew.a (by simp [bytesV_len, HML.out]; omega))
    have HT5 : Hid (TX w x ((M ++ x.data) ++ List.replicate (53 - n) 0) (wc.drew.setRow (w.heap.size + 1) ((bytesV (M ++ List.replicate 53 0)).take 11 ++ bytesV ((mkB x.data).data.toList.take n) ++ (bytesV (M ++ List.replicate 53 0)).drop (11 + n)).toArray)) := by
      have hr := setRow_heap wc.drew (w.heap.size + 1) _ ((bytesV (M ++ List.replicate 53 0)).take 11 ++ bytesV ((mkB x.data).data.toList.take n) ++ (bytesV (M ++ List.replicate 53 0)).drop (11 + n)).toArray _ _ HC2.out.drew.a
      refine HC2.out.drew.put (W' := wc.drew.setRow (w.heap.size + 1) ((bytesV (M ++ List.replicate 53 0)).take 11 ++ bytesV ((mkB x.data).data.toList.take n) ++ (bytesV (M ++ List.replicate 53 0)).drop (11 + n)).toArray) ⟨rfl, rfl, rfl, by simp, fun k _ hk => setRow_other _ _ _ _ hk⟩ ?_
      rw [hr, mkB_list, List.take_of_length_le (l := x.data) (by rw [HNN.out]; omega), lay_in M x.data 53 11 n HML.out.symm HNN.out.symm]
    generalize ((bytesV (M ++ List.replicate 53 0)).take 11 ++ bytesV ((mkB x.data).data.toList.take n) ++ (bytesV (M ++ List.replicate 53 0)).drop (11 + n)).toArray = Y at HCP HT5
    have hcp := HCP.out
    clear HC hM HCP HN
    go_upto_region 8 with fail
    go_still_tail 3, (by kernel_rfl)
    change wpList _ _ _ _ _ (World.drew _)
    go_upto_region 9 with fail
    generalize wc.drew.setRow (w.heap.size + 1) Y = w6 at HT5
    have hbd : Hid (bodyOf x = M ++ x.data ++ List.replicate (51 - n) 0) := by
      unfold Hid bodyOf
      rw [← HM.out, ← HA.out, HNN.out]
      simp
    have hB6 : Hid (TX w x (bodyOf x ++ List.replicate 2 0) w6) := by
      unfold Hid
      rw [hbd.out, List.append_assoc _ _ (List.replicate 2 0), List.replicate_append_replicate, show 51 - n + 2 = 53 - n by omega]
      exact HT5.out
    have hbl := bodyOf_len x (by rw [HNN.out]; exact hd)
    have HLAY : Hid (lay x = bodyOf x ++ be 2 (wt 0 (bodyOf x) % 65521)) := rfl
    obtain ⟨Bd, hBd⟩ : ∃ Bd, bodyOf x = Bd := ⟨_, rfl⟩
    rw [hBd] at hB6 hbl HLAY
    clear hBd hbd HT5 HC2 c0 c1 c2 c3 c4 hcp
    have hcv : ∀ W B, TX w x (Bd ++ B) W → (convert 124 9 (.slice (some ⟨w.heap.size + 1, 0, none⟩) 62 64)).run Tryz.prog W = .ok (.string (mkB Bd)) W := fun W B h => by
      refine conv_range W _ 62 64 (mkB Bd) (by rw [mkB_size]; exact hbl.symm) ?_
      intro j v hv
      rw [Nat.zero_add]
      refine cell_row h.a ?_
      unfold secC at hv
      rw [mkB_list] at hv
      rw [bytesV_append]
      have hj : j < (bytesV Bd).length := by
        by_cases hq : j < (bytesV Bd).length
        · exact hq
        · rw [List.getElem?_eq_none (by omega)] at hv; cases hv
      simp only [List.getElem?_toArray]
      rw [List.getElem?_append_left hj]
      exact hv
    have HCK := Lib.hid fun w => checksum72 (mkB Bd) (by rw [mkB_size]; omega) w
    rw [mkB_list] at HCK
    have hsm : wt 0 Bd % 65521 < 65521 := Nat.mod_lt _ (by omega)
    generalize wt 0 Bd % 65521 = sm at HCK HLAY hsm
    have HP : Hid (Calls Tryz.prog 215 #[.slice (some ⟨w.heap.size + 1, 62, none⟩) 2 2, .int .i64 (sm : Int)] w6.drew fun e W' => e = .returned (.tuple #[]) ∧ TX w x ((Bd ++ be 2 sm) ++ List.replicate (2 - 2) 0) W' ∧ (convert 124 9 (.slice (some ⟨w.heap.size + 1, 0, none⟩) 62 64)).run Tryz.prog W' = .ok (.string (mkB Bd)) W') :=
      (hB6.out.drew.put76 62 2 2 sm hbl.symm (by omega) (by omega) (by omega)).mono fun e W' h => ⟨h.1, h.2, hcv _ (be 2 sm ++ List.replicate (2 - 2) 0) (by rw [← List.append_assoc]; exact h.2)⟩
    have hcv1 := hcv _ _ hB6.out.drew
    clear HML HAL HA HM hcv
    go_cut [] from 31 (fun wx => TX w x ((Bd ++ be 2 sm) ++ List.replicate (2 - 2) 0) wx)
    case first =>
      go_region_held3 (fun W => (convert 124 9 (.slice (some ⟨w.heap.size + 1, 0, none⟩) 62 64)).run Tryz.prog W = .ok (.string (mkB Bd)) W) (assumption) (first | (go_at_call 210; with_reducible refine (HCK.out _).mono ?_; rintro e w' ⟨rfl, rfl⟩) | (go_at_call 215; refine HP.out.mono ?_; rintro e w' ⟨rfl, hT, hK⟩))
      all_goals
        go_wp2_with fail
        go_meet
        case rel => exact hT
    case rest =>
      have HT7 := Lib.hid hcut
      clear hcut HP hB6 hcv1
      have hcv2 : (convert 124 9 (.slice (some ⟨w.heap.size + 1, 0, none⟩) 64 64)).run Tryz.prog wc = .ok (.string (layB x)) wc := by
        have hL : (layB x).data.toList = Bd ++ be 2 sm := HLAY.out
        have hlen : (Bd ++ be 2 sm).length = 64 := by rw [List.length_append, hbl, be_len]
        refine conv_range wc _ 64 64 (layB x) (by rw [← len_list, hL, hlen]) ?_
        intro j v hv
        rw [Nat.zero_add]
        refine cell_row HT7.out.a ?_
        unfold secC at hv
        rw [hL] at hv
        simpa using hv
      clear HLAY HCK
      go_wp2
      go_ret
      exact ⟨rfl, HT7.out.b⟩
end Go.Proofs.YtjanddnlhaionaaGreatDoor.L6
namespace Go.Proofs.YtjanddnlhaionaaGreatDoor.L6
open Go.RowKit

/-- Element k stored whole, as the walk writes it. -/
theorem row_set {α : Type} {P : Program} {w : World} {B : Nat} {e : TypeId} {m : Nat} {g n c : Nat} {f : α → List Value} {l : List α} (ty : TypeId) (h : w.ownsRow B e m (.slice (some ⟨g, 0, none⟩) n c) n (l.flatMap f)) (hf : ∀ x ∈ l, (f x).length = m) (hn : n = l.length) (k : Nat) (y : α) (hk : k < l.length) (hy : (f y).length = m) (h1 : ∀ u ∈ f y, u.oneCell' = true)
    (hi : (P.info? ty).map (·.size) = some m) :
    w.there g (k * m) m ∧ (w.setCells g (k * m) (f y)).ownsRow B e m (.slice (some ⟨g, 0, none⟩) n c) n ((l.set k y).flatMap f) ∧ w.grownBy (w.setCells g (k * m) (f y)) (some g) ∧ (w.setCells g (k * m) (f y)).heap.size = w.heap.size := by
  obtain ⟨w', hrun, hrest⟩ := row_store (P := P) ty h hf hn k y hk hy h1 hi
  have ht : w.there g (k * m) m := by
    intro j hj
    refine ⟨?_, h.frozenAt _⟩
    have hlt : k * m + j < n * m := by
      have : (k + 1) * m ≤ n * m := Nat.mul_le_mul_right _ (by omega)
      rw [Nat.succ_mul] at this
      omega
    rw [h.cellAt _ hlt, List.getElem?_eq_getElem (by rw [h.1]; exact hlt)]
    rfl
  have hr2 := run_storeAt_mid (P := P) w g (k * m) ty (f y).toArray (by simpa [hy] using ht) (by simpa [hy] using hi) (by
    rw [Array.all_eq_true_iff_forall_mem]
    intro v hv
    exact h1 v (by simpa using hv))
  rw [hrun] at hr2
  injection hr2 with _ he
  have he : w' = w.setCells g (k * m) (f y) := by simpa using he
  rw [he] at hrest
  exact ⟨ht, hrest⟩

theorem secs_len {S : List ByteArray} (h : ∀ s ∈ S, s.size = 64) : ∀ s ∈ S, (secC s).length = 64 := fun s hs => by rw [secC_len]; exact h s hs
theorem pens_len {W : List (Nat × ByteArray)} {n : Nat} (h : ∀ p ∈ W, p.1 < n ∧ p.2.size = 64) : ∀ p ∈ W, (penC p).length = 65 := fun p hp => by
  simp [penC, secC_len, (h p hp).2]

/-- A sector set. -/
theorem PIs.setS {w w' : World} {F : Nat → Prop} {b : Nat} {d : D} {g c : Nat} {v : Value} (h : PIs w F b d g c v) (k : Nat) (s : ByteArray)
    (ho : w'.ownsRow 0 144 64 (.slice (some ⟨g, 0, none⟩) d.S.length c) d.S.length (secCells (d.S.set k s))) (hk : ∀ i, i < w.heap.size → i ≠ g → w'.heap[i]? = w.heap[i]?) : PIs w' F b { d with S := d.S.set k s } g c v := by
  have hl : ({ d with S := d.S.set k s } : D).S.length = d.S.length := by simp
  refine ⟨?_, ?_, row_keep h.o2 (fun i hi => hk i (row_lt h.o2 hi) (fun e => h.n12 (e ▸ hi))), h.n1, h.n2, h.n12, h.fb, h.f1, h.f2⟩
  · rw [hl, hk b h.lt (fun e => h.n1 e.symm)]; exact h.row
  · rw [hl]; exact ho

structure PW (w : World) (F : Nat → Prop) (b : Nat) (d : D) (g c : Nat) (v : Value) : Prop where
  is : PIs w F b d g c v
  ok : Ok d
  lt : ∀ k, F k → k < w.heap.size
theorem PAt.pw {w : World} {F : Nat → Prop} {b : Nat} {d : D} (h : PAt w F b d) : ∃ g c v, PW w F b d g c v := by
  obtain ⟨g, c, v, hi⟩ := h.is
  exact ⟨g, c, v, hi, h.ok, h.lt⟩
theorem PW.below {w w' : World} {F : Nat → Prop} {b : Nat} {d : D} {g c : Nat} {v : Value} (h : PW w F b d g c v) (ht : Below w.heap.size w w') : PW w' F b d g c v :=
  ⟨h.is.keep (fun k hk => ht.block k (h.lt k hk)), h.ok, fun k hk => Nat.lt_of_lt_of_le (h.lt k hk) ht.size⟩
theorem PIs.sub {w : World} {F : Nat → Prop} {b : Nat} {d : D} {g c : Nat} {v : Value} (h : PIs w F b d g c v) : g < w.heap.size := row_lt h.o1 rfl

set_option maxHeartbeats 1000000 in
theorem store34 {F : Nat → Prop} {b : Nat} {d : D} {w : World} {g c : Nat} {v : Value} (h : PW w F b d g c v) (p : Nat × ByteArray) (hp : p.1 < d.S.length) (hs : p.2.size = 64) :
    Calls Tryz.prog 82 #[.pointer (some ⟨b, 0, none⟩), .agg (penC p).toArray] w fun e w' => e = .returned (.tuple #[]) ∧ PW w' F b { d with S := d.S.set p.1 p.2 } g c v ∧ Turn F w w' := by
  obtain ⟨k, s⟩ := p
  have hp : k < d.S.length := hp
  have hs : s.size = 64 := hs
  have hi := h.is
  have hblt := hi.lt
  have hglt := hi.sub
  have hn2 := h.ok.n2
  -- the world with the box, drawn
  obtain ⟨w1, hw1⟩ : ∃ w1, w.alloc (.cells (penC (k, s)).toArray 146) = w1 := ⟨_, rfl⟩
  have hb1 : Below w.heap.size w w1 := by rw [← hw1]; exact (Below.refl _ _).alloc (Nat.le_refl _) _
  have hi1 : PIs w1 F b d g c v := hi.keep (fun i hi => hb1.block i (h.lt i hi))
  have hx1 : w1.heap[w.heap.size]? = some (.cells (penC (k, s)).toArray 146 (0, 0)) := by rw [← hw1]; exact heap_alloc_new _ _
  have q0 := hi1.c0
  have q1 : w1.cell? ⟨w.heap.size, 0, none⟩ = some (.int .i64 (k : Int)) := cell_row hx1 rfl
  have q2 : w1.rangeAt w.heap.size 1 (secC s) := fun j u hu => cell_row hx1 (by
    rw [show 1 + j = j + 1 by omega]
    simpa [penC] using hu)
  have hset := row_set (P := Tryz.prog) (w := w1.drew) 144 hi1.o1 (secs_len h.ok.s64) rfl k s hp (by rw [secC_len]; exact hs) (bytes_oneCell _) size72
  have q3 : w1.there g (k * 64) 64 := hset.1
  have HFIN : Hid (PW (w1.drew.setCells g (k * 64) (secC s)) F b { d with S := d.S.set k s } g c v ∧ Turn F w (w1.drew.setCells g (k * 64) (secC s))) := by
    refine ⟨⟨hi1.setS k s hset.2.1 (fun i hi hne => hset.2.2.1.block i hi (fun e => hne (by simpa using e))), ?_, fun i hi => ?_⟩, ?_⟩
    · refine ⟨by simpa using h.ok.n1, by simpa using h.ok.n2, fun x hx => ?_, fun x hx => by simpa using h.ok.w64 x hx, h.ok.f1, h.ok.f2, h.ok.g⟩
      rcases List.mem_or_eq_of_mem_set hx with h2 | h2
      · exact h.ok.s64 x h2
      · rw [h2]; exact hs
    · rw [hset.2.2.2]
      exact Nat.lt_of_lt_of_le (h.lt i hi) hb1.size
    · exact (Turn.of_below hb1 : Turn F w w1).trans (G := F) ⟨hset.2.2.1.os, hset.2.2.1.tape, hset.2.2.1.output, hset.2.2.1.size, fun i hi' hn => hset.2.2.1.block i hi' (fun e => hn (by cases e; exact hi.f1))⟩ (fun i h => .inl h)
  have r0 := hset.2.2.1.cell (a := ⟨b, 0, none⟩) q0 (by simp; exact fun e => hi.n1 e.symm)
  have r1 := hset.2.2.1.cell (a := ⟨w.heap.size, 0, none⟩) q1 (by simp; omega)
  have r2 : (w1.drew.setCells g (k * 64) (secC s)).rangeAt w.heap.size 1 (secC s) := fun j u hu => hset.2.2.1.cell (a := ⟨w.heap.size, 1 + j, none⟩) (q2 j u hu) (by simp; omega)
  have r3 : (w1.drew.setCells g (k * 64) (secC s)).there g (k * 64) 64 := (row_set (P := Tryz.prog) (w := w1.drew.setCells g (k * 64) (secC s)) 144 hset.2.1 (by
      intro x hx
      rcases List.mem_or_eq_of_mem_set hx with h2 | h2
      · exact secs_len h.ok.s64 x h2
      · rw [h2, secC_len]; exact hs) (by simp) k s (by simpa using hp) (by rw [secC_len]; exact hs) (bytes_oneCell _) size72).1
  have HS2 := Lib.hid (And.intro r0 (And.intro r1 (And.intro r2 r3)))
  have hl : (secC s).length = 64 := by rw [secC_len]; exact hs
  have h1 := bytes_oneCell s.data.toList
  have h1 : ∀ v ∈ secC s, v.oneCell' = true := h1
  have HB1 := Lib.hid hb1
  have HW1 := Lib.hid hw1
  have hw1s : w.heap.size < w1.heap.size := by rw [← hw1]; simp
  have hX : (penC (k, s)).toArray = (penC (k, s)).toArray := rfl
  generalize hY : (penC (k, s)).toArray = Y at HW1
  generalize secC s = X at q2 HFIN hl h1 HS2
  have hk0 : (0 : Int) ≤ (k : Int) := Int.natCast_nonneg _
  generalize hn : d.S.length = n at q0 hp hn2 HS2
  have HN := Lib.hid hn
  have hkn : (k : Int) < (n : Int) := by omega
  have hu := Tryz.underlying144
  have hinf : (Tryz.prog.info? 144).map (·.size) = some X.length := by rw [size72, hl]
  have S1 : Hid (w1.cell? ⟨b, 0, none⟩ = some (.slice (some ⟨g, 0, none⟩) n c) ∧ w1.cell? ⟨w.heap.size, 0, none⟩ = some (.int .i64 (k : Int)) ∧ w1.rangeAt w.heap.size 1 X ∧ w1.there g (k * 64) 64) := ⟨q0, q1, q2, q3⟩
  clear r0 r1 r2 r3 hi hi1 h hset hb1 hx1 hw1 hX hY hn
  go_enter Tryz.func82, Tryz.ntmps82
  go_wp2_with fail
  rw [HW1.out]
  go_region_held3 (fun w' => w'.cell? ⟨b, 0, none⟩ = some (.slice (some ⟨g, 0, none⟩) n c) ∧ w'.cell? ⟨w.heap.size, 0, none⟩ = some (.int .i64 (k : Int)) ∧ w'.rangeAt w.heap.size 1 X ∧ w'.there g (k * 64) 64) (first | exact HS2.out | go_keep_ranges) (fail)
  go_end0
  exact ⟨rfl, HFIN.out.1, HFIN.out.2⟩
end Go.Proofs.YtjanddnlhaionaaGreatDoor.L6
namespace Go.Proofs.YtjanddnlhaionaaGreatDoor.L6
open Go.RowKit

theorem sh_64 {d : D} (h : Ok d) {i : Nat} (hi : i < d.S.length) : ∀ k, k ≤ d.W.length → (sh d i k).size = 64
  | 0, _ => by
    unfold sh
    rw [List.getD_eq_getElem?_getD, List.getElem?_eq_getElem hi]
    exact h.s64 _ (List.getElem_mem hi)
  | k + 1, hk => by
    unfold sh
    split
    · exact (h.w64 _ (pw_mem (by omega))).2
    · exact sh_64 h hi k (by omega)

theorem PIs.sec {w : World} {F : Nat → Prop} {b : Nat} {d : D} {g c : Nat} {v : Value} (h : PIs w F b d g c v) (hok : Ok d) {i : Nat} (hi : i < d.S.length) : w.rangeAt g (i * 64) (secC (d.S.getD i ByteArray.empty)) := by
  refine row_range h.o1 (secs_len hok.s64) rfl i _ ?_
  rw [List.getD_eq_getElem?_getD, List.getElem?_eq_getElem hi]; rfl
theorem PIs.pen {w : World} {F : Nat → Prop} {b : Nat} {d : D} {g c : Nat} {gp n cp : Nat} (h : PIs w F b d g c (.slice (some ⟨gp, 0, none⟩) n cp)) (hn : n = d.W.length) (hok : Ok d) {k : Nat} (hk : k < d.W.length) : w.rangeAt gp (k * 65) (penC (pw d.W k)) := by
  subst hn
  refine row_range h.o2 (pens_len hok.w64) rfl k _ ?_
  rw [pw_eq hk, List.getElem?_eq_getElem hk]
theorem range_head {w : World} {g o : Nat} {p : Nat × ByteArray} (h : w.rangeAt g o (penC p)) : w.cell? ⟨g, o, none⟩ = some (.int .i64 (p.1 : Int)) := h 0 _ rfl
theorem range_tail {w : World} {g o : Nat} {p : Nat × ByteArray} (h : w.rangeAt g o (penC p)) : w.rangeAt g (o + 1) (secC p.2) := fun j v hv => by
  have := h (j + 1) v (by simpa [penC] using hv)
  rw [show o + 1 + j = o + (j + 1) by omega]
  exact this

set_option maxHeartbeats 1000000 in
theorem visible39 {F : Nat → Prop} {b : Nat} {d : D} {w : World} (h : PAt w F b d) (i : Nat) (hi : i < d.S.length) (hw : d.W.length ≤ 1000000) :
    Calls Tryz.prog 208 #[.pointer (some ⟨b, 0, none⟩), .int .i64 (i : Int)] w fun e w' => e = .returned (.string (sh d i d.W.length)) ∧ Below w.heap.size w w' := by
  obtain ⟨g, c, v, hI⟩ := h.is
  have HOK := Lib.hid h.ok
  have HI := Lib.hid hI
  have c0 := hI.c0
  have c1 := hI.c1
  have hn2 := h.ok.n2
  obtain ⟨a, cp, rfl⟩ := row_slice hI.o2
  have HSEC := Lib.hid (hI.sec h.ok hi)
  have HS64 : Hid ((d.S.getD i ByteArray.empty).size = 64) := sh_64 (d := d) h.ok hi 0 (Nat.zero_le _)
  obtain ⟨ans, hans⟩ : ∃ ans, sh d i d.W.length = ans := ⟨_, rfl⟩
  rw [hans]
  have HANS := Lib.hid hans
  have HW := Lib.hid (rfl : d.W.length = d.W.length)
  have HIN := Lib.hid hi
  generalize hS0 : d.S.getD i ByteArray.empty = s0 at HSEC HS64
  have HS0 := Lib.hid hS0
  have HI72 := Lib.hid size72
  obtain ⟨n, hn⟩ : ∃ n, d.S.length = n := ⟨_, rfl⟩
  rw [hn] at c0 hi hn2
  obtain ⟨m, hm⟩ : ∃ m, d.W.length = m := ⟨_, rfl⟩
  rw [hm] at c1 hw
  have HM := Lib.hid hm
  have HNN := Lib.hid hn
  have hin : (i : Int) < (n : Int) := by omega
  clear hI h hans hS0 hn hm HW
  go_enter Tryz.func208, Tryz.ntmps208
  go_wp2
  go_loop [5] (fun t => ∃ k : Int, -1 ≤ k ∧ k < m ∧ t = .int .i64 k ∧ Hid (sh d i (k + 1).toNat = ans)) (fun t => (intOf t + 1).toNat)
  case atStart => exact ⟨_, by omega, by omega, rfl, by
    unfold Hid
    rw [show ((m : Int) - 1 + 1).toNat = m by omega, ← HM.out]; exact HANS.out⟩
  case round =>
    obtain ⟨k, hk1, hk2, rfl, HK⟩ := hrel
    by_cases hneg : k = -1
    · subst hneg
      have HK' : Hid (s0 = ans) := by
        unfold Hid
        have := HK.out
        rw [show ((-1 : Int) + 1).toNat = 0 by rfl] at this
        rw [← this, ← HS0.out]; rfl
      have HT := Lib.hid (text36 s0 HS64.out w)
      have HL : Hid ((secC s0).length = 64) := by unfold Hid; rw [secC_len]; exact HS64.out
      generalize secC s0 = X at HSEC HT HL
      clear hk1 hk2 HK
      go_wp2_with (first | (refine wpList_load_mid rfl 144 _ rfl g (i * 64) rfl X _ HSEC.out Tryz.underlying144 rfl (by rw [HL.out]; exact HI72.out) ?_) | (go_at_call 217; refine HT.out.mono ?_; rintro e w' ⟨rfl, hb⟩))
      go_ret
      exact ⟨by rw [HK'.out]; rfl, hb⟩
    · obtain ⟨j, rfl⟩ : ∃ j : Nat, k = (j : Int) := ⟨k.toNat, by omega⟩
      have hjm : j < m := by omega
      have hj' : j < d.W.length := by rw [HM.out]; exact hjm
      have h0m : 0 < d.W.length := by omega
      obtain ⟨gp, cp', hv⟩ := row_some HI.out.o2 h0m
      injection hv with hv1 hv2 hv3
      subst hv1
      have hpen := HI.out.pen rfl HOK.out hj'
      have hc := range_head hpen
      have HR := Lib.hid (range_tail hpen)
      have HPS : Hid ((pw d.W j).2.size = 64) := (HOK.out.w64 _ (pw_mem hj')).2
      have HK2 : Hid ((if (pw d.W j).1 = i then (pw d.W j).2 else sh d i j) = ans) := by
        have := HK.out
        rw [show ((j : Int) + 1).toNat = j + 1 by omega] at this
        exact this
      obtain ⟨⟨pi, ps⟩, hpw⟩ : ∃ p, pw d.W j = p := ⟨_, rfl⟩
      rw [hpw] at hc HR HPS HK2
      have hc : w.cell? ⟨gp, j * 65, none⟩ = some (.int .i64 (pi : Int)) := hc
      clear hpen hpw hj' h0m HK hv2 hv3
      by_cases heq : pi = i
      · have e1 : ((pi : Int) == (i : Int)) = true := by rw [heq]; simp
        have HK3 : Hid (ps = ans) := by
          have := HK2.out
          rw [if_pos heq] at this
          exact this
        have HT := Lib.hid (text36 ps HPS.out w)
        have HL : Hid ((secC ps).length = 64) := by unfold Hid; rw [secC_len]; exact HPS.out
        have HR : Hid (w.rangeAt gp (j * 65 + 1) (secC ps)) := HR
        generalize secC ps = X at HR HT HL
        clear HK2 heq
        go_wp2_with (first | (refine wpList_load_mid rfl 144 _ rfl gp (j * 65 + 1) rfl X _ HR.out Tryz.underlying144 rfl (by rw [HL.out]; exact HI72.out) ?_) | (go_at_call 217; refine HT.out.mono ?_; rintro e w' ⟨rfl, hb⟩))
        go_ret
        exact ⟨by rw [HK3.out]; rfl, hb⟩
      · have e1 : ((pi : Int) == (i : Int)) = false := by rw [beq_eq_false_iff_ne]; omega
        have HK3 : Hid (sh d i j = ans) := by
          have := HK2.out
          rw [if_neg heq] at this
          exact this
        clear HK2 heq
        go_wp2
        go_round
        case rel => exact ⟨(j : Int) - 1, by omega, by omega, rfl, by
          unfold Hid
          rw [show ((j : Int) - 1 + 1).toNat = j by omega]; exact HK3.out⟩
        case measure => simp [intOf]

set_option maxHeartbeats 1000000 in
theorem read22 {F : Nat → Prop} {b : Nat} {d : D} {w : World} (h : PAt w F b d) (i : Int) (hw : d.W.length ≤ 1000000) :
    Calls Tryz.prog 193 #[.pointer (some ⟨b, 0, none⟩), .int .i64 i] w fun e w' => e = .returned (.tuple #[.string (readS d i), .int .i64 (readE d i)]) ∧ Below w.heap.size w w' := by
  have HE := Lib.hid (exists26 h)
  have HH := Lib.hid (has35 h i)
  obtain ⟨ans, hans⟩ : ∃ ans, readS d i = ans := ⟨_, rfl⟩
  obtain ⟨er, her⟩ : ∃ er, readE d i = er := ⟨_, rfl⟩
  rw [hans, her]
  have HANS := Lib.hid hans
  have HER := Lib.hid her
  obtain ⟨g, c, v, hI⟩ := h.is
  have c3 := hI.c3
  clear hans her hI
  cases hq : d.gone with
  | true =>
    rw [hq] at c3
    have e : ans = ByteArray.empty := by rw [← HANS.out]; simp [readS, hq]
    have e2 : er = 9 := by rw [← HER.out]; simp [readE, hq]
    subst e e2
    clear hq HANS HER h
    go_enter Tryz.func193, Tryz.ntmps193
    go_wp2_with (first | (go_at_call 80; refine HE.out.mono ?_; rintro e w' ⟨rfl, rfl⟩) | (go_at_call 207; refine HH.out.mono ?_; rintro e w' ⟨rfl, rfl⟩))
    go_ret2
    exact ⟨rfl, Below.refl _ _⟩
  | false =>
    rw [hq] at c3
    cases hb : hasB d i with
    | false =>
      rw [hb] at HH
      have e : ans = ByteArray.empty := by rw [← HANS.out]; simp [readS, hb]
      have e2 : er = 6 := by rw [← HER.out]; simp [readE, hq, hb]
      subst e e2
      clear hq hb HANS HER h
      go_enter Tryz.func193, Tryz.ntmps193
      go_wp2_with (first | (go_at_call 80; refine HE.out.mono ?_; rintro e w' ⟨rfl, rfl⟩) | (go_at_call 207; refine HH.out.mono ?_; rintro e w' ⟨rfl, rfl⟩))
      go_ret2
      exact ⟨rfl, Below.refl _ _⟩
    | true =>
      rw [hb] at HH
      have hr := hasB_iff.1 hb
      obtain ⟨k, rfl⟩ : ∃ k : Nat, i = (k : Int) := ⟨i.toNat, by omega⟩
      have hk : k < d.S.length := by omega
      have HV := Lib.hid (visible39 h k hk hw)
      have e : sh d k d.W.length = ans := by rw [← HANS.out]; simp [readS, hq, hb]
      have e2 : er = 0 := by rw [← HER.out]; simp [readE, hq, hb]
      subst e2
      rw [e] at HV
      clear hq hb HANS HER h e hr hk hw
      go_enter Tryz.func193, Tryz.ntmps193
      go_wp2_with (first | (go_at_call 80; refine HE.out.mono ?_; rintro e w' ⟨rfl, rfl⟩) | (go_at_call 207; refine HH.out.mono ?_; rintro e w' ⟨rfl, rfl⟩) | (go_at_call 208; refine HV.out.mono ?_; rintro e w' ⟨rfl, hb⟩))
      go_ret2
      exact ⟨rfl, hb⟩
end Go.Proofs.YtjanddnlhaionaaGreatDoor.L6
namespace Go.Proofs.YtjanddnlhaionaaGreatDoor.L6
open Go.RowKit

def z65c : List Value := .int .i64 0 :: z64c
theorem zero74 : (∀ w, (zeroValue 146).run Tryz.prog w = .ok (.agg z65c.toArray) w) ∧ (Tryz.prog.info? 146).map (·.size) = some 65 :=
  zero_of_info (by kernel_rfl)
theorem penC_oneCell (p : Nat × ByteArray) : (penC p).toArray.all (·.oneCell') = true := by
  rw [Array.all_eq_true_iff_forall_mem]
  intro v hv
  have hv : v ∈ penC p := by simpa using hv
  rcases List.mem_cons.1 hv with rfl | hv
  · rfl
  · exact bytes_oneCell _ v hv

/-- No pending writes any more, with other words in the drum's own block. -/
theorem PIs.wipe {w w' : World} {F : Nat → Prop} {b : Nat} {d : D} {g c : Nat} {v : Value} (h : PIs w F b d g c v) (f : Int) (q : Bool)
    (hr : w'.heap[b]? = some (.cells #[.slice (some ⟨g, 0, none⟩) d.S.length c, .slice none 0 0, .int .i64 f, .bool q] 120 (0, 0))) (hk : ∀ k, k ≠ b → w'.heap[k]? = w.heap[k]?) : PIs w' F b ⟨d.S, [], f, q⟩ g c (.slice none 0 0) :=
  ⟨hr, row_keep h.o1 (fun k hk' => hk k (own_some hk' ▸ h.n1)), World.ownsRow_nil _ _ _ _, h.n1, by simp [Value.ownBlock], by simp [Value.ownBlock], h.fb, h.f1, by simp [Value.ownBlock]⟩

set_option maxHeartbeats 1000000 in
theorem settle21 {F : Nat → Prop} {b : Nat} {d : D} {w : World} (h : PAt w F b d) (hw : d.W.length ≤ 1000000) :
    Calls Tryz.prog 201 #[.pointer (some ⟨b, 0, none⟩)] w fun e w' => e = .returned (.int .i64 (settleE d)) ∧ PAt w' F b (settleD d) ∧ Turn F w w' := by
  have HE := Lib.hid (exists26 h)
  have HSP := Lib.hid (spend37 h)
  obtain ⟨r, hr⟩ : ∃ r, settleD d = r := ⟨_, rfl⟩
  obtain ⟨er, her⟩ : ∃ er, settleE d = er := ⟨_, rfl⟩
  rw [hr, her]
  have HR := Lib.hid hr
  have HER := Lib.hid her
  have HBW := Lib.hid (burn_W d)
  have HBS := Lib.hid (burn_S d)
  clear hr her h
  obtain ⟨d1, hd1⟩ : ∃ d1, burn d = d1 := ⟨_, rfl⟩
  rw [hd1] at HSP HBW HBS
  have HD1 := Lib.hid hd1
  clear hd1
  cases hq : d1.gone with
  | true =>
    rw [hq] at HSP
    have e1 : r = d1 := by rw [← HR.out]; simp [settleD, HD1.out, hq]
    have e2 : er = 9 := by rw [← HER.out]; simp [settleE, HD1.out, hq]
    subst e1 e2
    clear hq HR HER HD1 HBW HBS hw
    go_enter Tryz.func201, Tryz.ntmps201
    go_wp2_with (first | (go_at_call 80; refine HE.out.mono ?_; rintro e w' ⟨rfl, rfl⟩) | (go_at_call 213; refine HSP.out.mono ?_; rintro e w' ⟨rfl, hP, hT, -⟩))
    go_ret
    exact ⟨rfl, hP, hT⟩
  | false =>
    rw [hq] at HSP
    have HR1 : Hid (r = ⟨ap allF d1.S d1.W d1.W.length, [], d1.fuse, false⟩) := by
      unfold Hid
      rw [← HR.out, settleD, HD1.out, hq, HBS.out, HBW.out]
      simp [hq]
    have e2 : er = 0 := by rw [← HER.out]; simp [settleE, HD1.out, hq]
    subst e2
    have hw1 : d1.W.length ≤ 1000000 := by rw [HBW.out]; exact hw
    have HQ := Lib.hid hq
    clear hq HR HER HD1 HBW HBS hw
    go_enter Tryz.func201, Tryz.ntmps201
    go_wp2_with fail
    refine HE.out.mono ?_
    rintro e w' ⟨rfl, rfl⟩
    go_wp2_with fail
    refine HSP.out.mono ?_
    rintro e w1 ⟨rfl, hP, hT, -⟩
    obtain ⟨g, c, v, hpw⟩ := hP.pw
    have c1 := hpw.is.c1
    obtain ⟨a, cp, rfl⟩ := row_slice hpw.is.o2
    have HPW0 : Hid (PW w1 F b { d1 with S := ap allF d1.S d1.W 0 } g c (.slice a d1.W.length cp)) := hpw
    have HT0 := Lib.hid hT
    have hz := zero74.1
    have HZ : Hid (z65c.length = 65) := by unfold Hid; simp [z65c, z64c]
    generalize z65c = Z at hz HZ
    have HI74 := Lib.hid size74
    have HOK := Lib.hid hpw.ok
    obtain ⟨m, hm⟩ : ∃ m, d1.W.length = m := ⟨_, rfl⟩
    rw [hm] at c1 HPW0 HR1 hw1
    have HM := Lib.hid hm
    clear hP hT hpw hm HSP HE
    go_wp2
    clear c1
    go_loopw [16] (fun s16 wr => ∃ k : Nat, k ≤ m ∧ s16 = .int .i64 k ∧ Hid (PW wr F b { d1 with S := ap allF d1.S d1.W k } g c (.slice a m cp)) ∧ Hid (Turn F w wr)) (fun s16 _ => m - (intOf s16).toNat)
    case atStart => exact ⟨0, by omega, rfl, HPW0, HT0⟩
    case round =>
      obtain ⟨k, hk, rfl, HP, HT⟩ := hrel
      by_cases hlt : k < m
      · have hk' : k < d1.W.length := by rw [HM.out]; exact hlt
        obtain ⟨gp, cp', hv⟩ := row_some HP.out.is.o2 (by show 0 < d1.W.length; omega)
        injection hv with hv1 hv2 hv3
        subst hv1
        have HPEN : Hid (wr.rangeAt gp (k * 65) (penC (pw d1.W k))) := HP.out.is.pen HM.out.symm HP.out.ok hk'
        have hp64 := HOK.out.w64 _ (pw_mem hk')
        have hset : ({ d1 with S := ap allF d1.S d1.W (k + 1) } : D) = { ({ d1 with S := ap allF d1.S d1.W k } : D) with S := (ap allF d1.S d1.W k).set (pw d1.W k).1 (pw d1.W k).2 } := by
          show (⟨ap allF d1.S d1.W (k + 1), _, _, _⟩ : D) = _
          rw [L6.ap, if_pos (show allF k = true from rfl)]
        have hlen : (pw d1.W k).1 < ({ d1 with S := ap allF d1.S d1.W k } : D).S.length := by
          show _ < (ap allF d1.S d1.W k).length
          rw [ap_length]; exact hp64.1
        have hb2 : Below wr.heap.size wr ((wr.alloc (.cells Z.toArray 146)).setRow wr.heap.size (penC (pw d1.W k)).toArray) := below_setRow ((Below.refl _ _).alloc (Nat.le_refl _) _) (Nat.le_refl _) _
        have HST := Lib.hid (store34 (HP.out.below hb2) (pw d1.W k) hlen hp64.2)
        have HT2 : Hid (Turn F w ((wr.alloc (.cells Z.toArray 146)).setRow wr.heap.size (penC (pw d1.W k)).toArray)) := HT.out.trans (Turn.of_below (F := F) hb2) (fun i h => .inl h)
        have HL : Hid ((penC (pw d1.W k)).length = 65) := pens_len HOK.out.w64 _ (pw_mem hk')
        have H1 := Lib.hid (penC_oneCell (pw d1.W k))
        have HG2 : Hid (((wr.alloc (.cells Z.toArray 146)).setRow wr.heap.size (penC (pw d1.W k)).toArray).heap[wr.heap.size]? = some (.cells (penC (pw d1.W k)).toArray 146 (0, 0))) := setRow_heap _ _ _ _ _ _ (heap_alloc_new _ _)
        have HSET := Lib.hid hset
        generalize penC (pw d1.W k) = X at HPEN HST HT2 HL H1 HG2
        clear hset hlen hb2 hp64 hk' hv2 hv3
        go_wp2_with (first | (refine wpList_load_mid rfl 146 _ rfl gp (k * 65) rfl X _ HPEN.out Tryz.underlying146 rfl (by rw [HL.out]; exact HI74.out) ?_) | (refine wpList_store_row rfl 146 _ _ rfl wr.heap.size _ rfl rfl 146 _ (heap_alloc_new _ _) (by simpa [HL.out] using HI74.out) (by simp [HL.out, HZ.out]) H1.out ?_) | (refine wpList_load_row rfl 146 _ rfl wr.heap.size rfl 146 _ (0, 0) _ HG2.out Tryz.underlying146 rfl (by simpa [HL.out] using HI74.out) ?_) | (go_at_call 82; refine HST.out.mono ?_; rintro e w5 ⟨rfl, hP5, hT5⟩; rw [← HSET.out] at hP5; have HP5 := Lib.hid hP5; have HT5 := Lib.hid (HT2.out.trans hT5 (fun i h => .inl h)); clear hP5 hT5))
        go_roundw
        case rel => exact ⟨k + 1, by omega, by go_num, HP5, HT5⟩
        case measure => simp [intOf]; omega
      · have hkm : k = m := by omega
        subst hkm
        have c1 := HP.out.is.c1
        have f1 := HP.out.is.fr 1
        have HFIN : Hid (PAt (wr.setCell ⟨b, 1, none⟩ (.slice none 0 0)) F b r ∧ Turn F w (wr.setCell ⟨b, 1, none⟩ (.slice none 0 0))) := by
          refine ⟨⟨⟨g, c, .slice none 0 0, ?_⟩, ?_, fun i hi => by simpa [World.setCell] using HP.out.lt i hi⟩, HT.out.setCell _ _ (.inl HP.out.is.fb)⟩
          · rw [HR1.out]
            refine HP.out.is.wipe d1.fuse false ?_ (fun i hi => Below.heap_setCell _ _ _ _ hi)
            rw [heap_setCell_same _ _ _ _ _ _ HP.out.is.row]
            simp [HQ.out]
          · rw [HR1.out]
            have ho := HP.out.ok
            exact ⟨ho.n1, ho.n2, ho.s64, fun p hp => by simp at hp, ho.f1, ho.f2, fun h => by cases h⟩
        clear HP HT hlt
        go_wp2
        go_ret
        exact ⟨rfl, HFIN.out.1, HFIN.out.2⟩
end Go.Proofs.YtjanddnlhaionaaGreatDoor.L6
