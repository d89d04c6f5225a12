/-
  Contract of parse. No condition.
-/
import Derived.Test.YtjanddnlhaionaaGreatDoorL6XA
import Derived.Test.YtjanddnlhaionaaGreatDoorL6C
import Derived.Laws.ResultCell
import Derived.Deep.Cut
import Derived.Deep.DeepMust
import Derived.OwnWalk
namespace Go.Proofs.YtjanddnlhaionaaGreatDoor.L6
open Go.RowKit

set_option maxRecDepth 100000 in
theorem below_drewN {B : Nat} {a b : World} (h : Below B a b) (n : Nat) : Below B a (b.drewN n) := ⟨h.os, h.tape, h.output, h.size, h.block⟩
def secV (s : Sec) : Array Value := #[.int .i64 (s.life : Int), .int .i64 (s.record : Int), .int .i64 (s.part : Int), .bool s.last, .string (mkB s.data)]
def zeroS : Sec := ⟨0, 0, 0, false, []⟩
def parseS (l : List UInt8) : Sec := (says l).getD zeroS
def parseB (l : List UInt8) : Bool := (says l).isSome
set_option maxRecDepth 100000 in
theorem Tryz.z112' : (∀ w, (zeroValue 289).run Tryz.prog w = .ok (.agg #[.int .i64 0, .int .i64 0, .int .i64 0, .bool false, .string ⟨#[]⟩]) w) ∧ (Tryz.prog.info? 289).map (·.size) = some 5 := zero_of_info (by kernel_rfl)
set_option maxRecDepth 100000 in
theorem Tryz.z112 : ∀ w, (zeroValue 289).run Tryz.prog w = .ok (.agg #[.int .i64 0, .int .i64 0, .int .i64 0, .bool false, .string ⟨#[]⟩]) w := Tryz.z112'.1
set_option maxRecDepth 100000 in
theorem results_row_tmp {P : Program} {fn : Func} {p u : Tmp} {ty : TypeId} (h : fn.results = #[.cell p ty, .tmp u]) (tmps : Array Value) (w : World) (g : Nat) (t : TypeId) (cs : Array Value) (fr : Nat × Nat) (d : TypeDesc)
    (hp : tmps.getD p undef = .pointer (some ⟨g, 0, none⟩)) (hg : w.heap[g]? = some (.cells cs t fr))
    (hu : P.underlying ty = some d) (hd : (match d with | .struct _ | .array _ _ => true | _ => false) = true) (hi : (P.info? ty).map (·.size) = some cs.size) :
    (results fn tmps).run P w = .ok (.tuple #[.agg cs, tmps.getD u undef]) w := by
  rw [results_cell_tmp h, hp]
  simp [asAddr, run_loadVar_row w g t ty cs fr d hg hu hd hi, Result.andThen]

set_option maxRecDepth 100000 in
set_option maxHeartbeats 1000000 in
theorem parse59_bad (s : ByteArray) (hs : s.size = 64) (w : World) (hb : badSize s.data.toList = true) :
    Calls Tryz.prog 194 #[.string s] w fun e w' => e = .returned (.tuple #[.agg (secV zeroS), .bool false]) ∧ Below w.heap.size w w' := by
  have h10 : 10 < s.size := by omega
  obtain ⟨m, hm⟩ : ∃ m, (s[10]'h10).toNat = m := ⟨_, rfl⟩
  have hg : (s.data.toList.getD 10 0).toNat = m := by
    rw [← hm, List.getD_eq_getElem?_getD, List.getElem?_eq_getElem (by rw [len_list]; exact h10)]; rfl
  have hi : ∀ W, (Instr.index 9 (.string s) (.int .i64 10)).run Tryz.prog W = .ok (.int .u8 (m : Int)) W := by
    intro W
    go_simp
  unfold badSize sizeOfS isLast at hb
  rw [hg] at hb
  have HS := Lib.hid hs
  have hm2 : m < 256 := by rw [← hm]; exact (s[10]'h10).toNat_lt
  clear hs h10 hm hg
  have HG := Lib.hid (heap_alloc_new w (.cells #[.int .i64 0, .int .i64 0, .int .i64 0, .bool false, .string ⟨#[]⟩] 289))
  have HB : Hid (Below w.heap.size w (w.alloc (.cells #[.int .i64 0, .int .i64 0, .int .i64 0, .bool false, .string ⟨#[]⟩] 289))) := (Below.refl _ _).alloc (Nat.le_refl _) _
  have hz := Tryz.z112
  by_cases h1 : 51 < m % 128
  · have t1 : decide (51 < ((m : Int) % 128)) = true := decide_eq_true (by omega)
    clear hb
    go_enter Tryz.func194, Tryz.ntmps194
    go_wp2
    exact bodyPost_ret (results_row_tmp rfl _ _ w.heap.size 289 _ (0, 0) _ rfl HG.out Tryz.underlying289 rfl Tryz.z112'.2) rfl ⟨rfl, HB.out⟩
  · have t1 : decide (51 < ((m : Int) % 128)) = false := decide_eq_false (by omega)
    have h2 : m % 128 < 51 ∧ m < 128 := by simpa [h1] using hb
    have t2 : decide (((m : Int) % 128) < 51) = true := decide_eq_true (by omega)
    have t3 : decide (128 ≤ (m : Int)) = false := decide_eq_false (by omega)
    clear hb h2 h1
    go_enter Tryz.func194, Tryz.ntmps194
    go_wp2
    exact bodyPost_ret (results_row_tmp rfl _ _ w.heap.size 289 _ (0, 0) _ rfl HG.out Tryz.underlying289 rfl Tryz.z112'.2) rfl ⟨rfl, HB.out⟩

set_option maxRecDepth 100000 in
set_option maxHeartbeats 4000000 in
theorem parse59_good (s : ByteArray) (hs : s.size = 64) (w : World) (hb : badSize s.data.toList = false) :
    Calls Tryz.prog 194 #[.string s] w fun e w' => e = .returned (.tuple #[.agg (if isValid s.data.toList then secV (secOf s.data.toList) else secV zeroS), .bool (isValid s.data.toList)]) ∧ Below w.heap.size w w' := by
  have h10 : 10 < s.size := by omega
  obtain ⟨m, hm⟩ : ∃ m, (s[10]'h10).toNat = m := ⟨_, rfl⟩
  have hg : (s.data.toList.getD 10 0).toNat = m := by
    rw [← hm, List.getD_eq_getElem?_getD, List.getElem?_eq_getElem (by rw [len_list]; exact h10)]; rfl
  have hi : ∀ W, (Instr.index 9 (.string s) (.int .i64 10)).run Tryz.prog W = .ok (.int .u8 (m : Int)) W := by
    intro W
    go_simp
  have hm2 : m < 256 := by rw [← hm]; exact (s[10]'h10).toNat_lt
  clear hm h10
  obtain ⟨sz, hsz⟩ : ∃ sz, sizeOfS s.data.toList = sz := ⟨_, rfl⟩
  obtain ⟨la, hla⟩ : ∃ la, isLast s.data.toList = la := ⟨_, rfl⟩
  have hsm : m % 128 = sz := by rw [← hsz, ← hg]; rfl
  have hlm : decide (128 ≤ (m : Int)) = la := by rw [← hla]; unfold isLast; rw [hg, decide_eq_decide]; omega
  have hsm' : (m : Int) % 128 = sz := by omega
  have hle : sz ≤ 51 ∧ (la = false → sz = 51) := by
    unfold badSize at hb
    rw [hsz, hla] at hb
    cases la <;> simp at hb ⊢ <;> omega
  obtain ⟨hle1, hle2⟩ := hle
  have t1 : decide (51 < (sz : Int)) = false := decide_eq_false (by omega)
  have N1 := fun w => number71 (s.extract 0 4) (by rw [ByteArray.size_extract]; omega) w
  have N2 := fun w => number71 (s.extract 4 8) (by rw [ByteArray.size_extract]; omega) w
  have N3 := fun w => number71 (s.extract 8 10) (by rw [ByteArray.size_extract]; omega) w
  have N4 := fun w => number71 (s.extract 62 64) (by rw [ByteArray.size_extract]; omega) w
  have C5 := fun w => checksum72 (s.extract 0 62) (by rw [ByteArray.size_extract]; omega) w
  have T6 := fun w => trim73 (s.extract (11 + sz) 62) (by rw [ByteArray.size_extract]; omega) w
  have e1 : (s.extract 0 4).data.toList = s.data.toList.take 4 := by rw [ext_list, List.drop_zero]
  have e2 : (s.extract 4 8).data.toList = (s.data.toList.drop 4).take 4 := by rw [ext_list, List.drop_take]
  have e3 : (s.extract 8 10).data.toList = (s.data.toList.drop 8).take 2 := by rw [ext_list, List.drop_take]
  have e4 : (s.extract 62 64).data.toList = s.data.toList.drop 62 := by rw [ext_list, List.take_of_length_le (by rw [len_list]; omega)]
  have e5 : (s.extract 0 62).data.toList = s.data.toList.take 62 := by rw [ext_list, List.drop_zero]
  have e6 : (s.extract (11 + sz) 62).data.toList = restOf s.data.toList := by rw [ext_list, List.drop_take]; unfold restOf; rw [hsz, show 62 - (11 + sz) = 51 - sz by omega]
  have e7 : s.extract 11 (11 + sz) = mkB ((s.data.toList.drop 11).take sz) := eq_mkB (by rw [ext_list, List.drop_take, show 11 + sz - 11 = sz by omega])
  have e8 := trimB_empty (s.extract (11 + sz) 62)
  rw [e6] at e8
  rw [e1] at N1
  rw [e2] at N2
  rw [e3] at N3
  rw [e4] at N4
  rw [e5] at C5
  clear e1 e2 e3 e4 e5 e6
  have hsec : secV (secOf s.data.toList) = #[.int .i64 ((num (s.data.toList.take 4) : Nat) : Int), .int .i64 ((num ((s.data.toList.drop 4).take 4) : Nat) : Int), .int .i64 ((num ((s.data.toList.drop 8).take 2) : Nat) : Int), .bool la, .string (s.extract 11 (11 + sz))] := by
    rw [e7]; unfold secV secOf; rw [hsz, hla]
  have hval : isValid s.data.toList = (decide (0 < num (s.data.toList.take 4)) && decide (num (s.data.toList.drop 62) = wt 0 (s.data.toList.take 62) % 65521) && (trimB (s.extract (11 + sz) 62)).toList.isEmpty) := by
    rw [e8]; rfl
  rw [hsec, hval]
  clear e7 e8 hsec hval hsz hla hg hb
  generalize num (s.data.toList.take 4) = a1 at N1 ⊢
  generalize num ((s.data.toList.drop 4).take 4) = a2 at N2 ⊢
  generalize num ((s.data.toList.drop 8).take 2) = a3 at N3 ⊢
  generalize num (s.data.toList.drop 62) = a4 at N4 ⊢
  generalize wt 0 (s.data.toList.take 62) % 65521 = a5 at C5 ⊢
  generalize trimB (s.extract (11 + sz) 62) = a6 at T6 ⊢
  have HN1 := Lib.hid N1
  have HN2 := Lib.hid N2
  have HN3 := Lib.hid N3
  have HN4 := Lib.hid N4
  have HC5 := Lib.hid C5
  have HT6 := Lib.hid T6
  clear N1 N2 N3 N4 C5 T6
  have hz := Tryz.z112
  have x11 : IntKind.i64.wrap (11 + (sz : Int)) = ((11 + sz : Nat) : Int) := by clear hsm hsm' hm2 hlm; rw [IntKind.wrap_i64]; omega
  have hs1 : ∀ W, (Instr.slice 9 (.string s) (some (.int .i64 11)) (some (.int .i64 (11 + (sz : Int)))) none).run Tryz.prog W = .ok (.string (s.extract 11 (11 + sz))) W := fun W => slice_str s 11 (11 + sz) (by omega) (by omega) _ _ rfl (by omega) W
  have hs2 : ∀ W, (Instr.slice 9 (.string s) (some (.int .i64 (11 + (sz : Int)))) (some (.int .i64 62)) none).run Tryz.prog W = .ok (.string (s.extract (11 + sz) 62)) W := fun W => slice_str s (11 + sz) 62 (by omega) (by omega) _ _ (by omega) rfl W
  clear hsm
  obtain ⟨q, hq⟩ : ∃ q, (decide (0 < a1) && decide (a4 = a5) && a6.toList.isEmpty) = q := ⟨_, rfl⟩
  rw [hq]
  have HQ := Lib.hid hq
  clear hq
  obtain ⟨X, hX⟩ : ∃ X : Array Value, X = #[.int .i64 (a1 : Int), .int .i64 (a2 : Int), .int .i64 (a3 : Int), .bool la, .string (s.extract 11 (11 + sz))] := ⟨_, rfl⟩
  rw [← hX]
  have HX := Lib.hid hX
  clear hX
  obtain ⟨w1, hw1⟩ : ∃ w1, w.alloc (.cells #[.int .i64 0, .int .i64 0, .int .i64 0, .bool false, .string ⟨#[]⟩] 289) = w1 := ⟨_, rfl⟩
  have HW1 := Lib.hid hw1
  go_enter Tryz.func194, Tryz.ntmps194
  go_upto_region 3 with (fail)
  clear hw1
  go_cut [25] from 9 (fun s25 wx => s25 = .bool false ∧ w1 = wx)
  case first =>
    cases la with
    | true =>
      by_cases hlt : sz < 51
      · have t2 : decide ((sz : Int) < 51) = true := decide_eq_true (by omega)
        go_wp2_with fail
        go_meet
        case rel => exact ⟨rfl, rfl⟩
      · have t2 : decide ((sz : Int) < 51) = false := decide_eq_false (by omega)
        go_wp2_with fail
        go_meet
        case rel => exact ⟨rfl, rfl⟩
    | false =>
      have t2 : decide ((sz : Int) < 51) = false := decide_eq_false (by have := hle2 rfl; omega)
      clear hle2
      go_wp2_with fail
      go_meet
      case rel => exact ⟨rfl, rfl⟩
  case rest =>
    obtain ⟨rfl, rfl⟩ := hcut
    have HSZ : Hid (w1.heap.size = w.heap.size + 1) := by unfold Hid; rw [← HW1.out]; simp
    go_wp2_with fail
    go_cut [6] from 9 (fun s6 wx => s6 = .pointer (some ⟨w1.heap.size, 0, none⟩) ∧ (w1.alloc (.cells X 289)).drew = wx)
    case first =>
      go_region_held3 (fun _ => True) (trivial) ((go_at_call 209; (first | (with_reducible refine (HN1.out _).mono ?_) | (with_reducible refine (HN2.out _).mono ?_) | (with_reducible refine (HN3.out _).mono ?_)); rintro e w' ⟨rfl, rfl⟩))
      all_goals
        go_wp2_with fail
        go_meet
        case rel => exact ⟨rfl, by rw [HX.out]⟩
    case rest =>
      obtain ⟨rfl, rfl⟩ := hcut
      have HG2 : Hid ((w1.alloc (.cells X 289)).drew.heap[w1.heap.size]? = some (.cells X 289 (0, 0))) := heap_alloc_new _ _
      have HG1 : Hid ((w1.alloc (.cells X 289)).drew.heap[w.heap.size]? = some (.cells #[.int .i64 0, .int .i64 0, .int .i64 0, .bool false, .string ⟨#[]⟩] 289 (0, 0))) := by
        refine (Below.heap_alloc w1 (.cells X 289) w.heap.size (by have := HSZ.out; omega)).trans ?_
        rw [← HW1.out]; exact heap_alloc_new _ _
      have c0 : (w1.alloc (.cells X 289)).drew.cell? ⟨w1.heap.size, 0, none⟩ = some (.int .i64 (a1 : Int)) := cell_row HG2.out (by rw [HX.out]; rfl)
      have HB2 : Hid (Below w.heap.size w (w1.alloc (.cells X 289)).drew) := by
        have h1 : Below w.heap.size w w1 := by rw [← HW1.out]; exact (Below.refl _ _).alloc (Nat.le_refl _) _
        exact (h1.alloc (by have := HSZ.out; omega) _).drew
      have HI := Lib.hid Tryz.z112'.2
      have HXS : Hid (X.size = 5) := by unfold Hid; rw [HX.out]; rfl
      have HX1 : Hid (X.all (·.oneCell') = true) := by unfold Hid; rw [HX.out]; simp [Value.oneCell']
      have HZ1 : Hid ((#[.int .i64 0, .int .i64 0, .int .i64 0, .bool false, .string ⟨#[]⟩] : Array Value).all (·.oneCell') = true) := by unfold Hid; simp [Value.oneCell']
      clear HX HW1 HSZ HN1 HN2 HN3
      generalize (w1.alloc (.cells X 289)).drew = w2 at HG2 HG1 c0 HB2
      by_cases v1 : 0 < a1
      · have u1 : decide (0 < a1) = true := decide_eq_true v1
        by_cases v2 : a4 = a5
        · have u2 : ((a4 : Int) == (a5 : Int)) = true := by rw [v2]; simp
          have u2' : (a4 == a5) = true := by rw [v2]; simp
          cases v3 : a6.toList.isEmpty with
          | true =>
            have e : q = true := by rw [← HQ.out, v3]; simp [v1, v2]
            subst e
            clear HQ v1
            go_wp2_with fail
            go_quiet (first | (go_at_call 209; exact quietS (HN4.out _)) | (go_at_call 210; exact quietS (HC5.out _)) | (go_at_call 211; exact Calls.quiet_of (HT6.out _)))
            go_wp2_with (first | (refine wpList_load_row rfl 289 _ rfl w1.heap.size rfl 289 X (0, 0) _ HG2.out Tryz.underlying289 rfl (by rw [HXS.out]; exact HI.out) ?_) | (refine wpList_store_row rfl 289 _ _ rfl w.heap.size X rfl rfl 289 _ HG1.out (by rw [HXS.out]; exact HI.out) (by rw [HXS.out]; rfl) HX1.out ?_))
            exact bodyPost_ret (results_row_tmp rfl _ _ w.heap.size 289 _ (0, 0) _ rfl (setRow_heap _ _ _ _ _ _ HG1.out) Tryz.underlying289 rfl (by rw [HXS.out]; exact HI.out)) rfl ⟨rfl, (below_setRow (below_drewN HB2.out _) (Nat.le_refl _) _)⟩
          | false =>
            have e : q = false := by rw [← HQ.out, v3]; simp
            subst e
            clear HQ v1
            go_wp2_with fail
            go_quiet (first | (go_at_call 209; exact quietS (HN4.out _)) | (go_at_call 210; exact quietS (HC5.out _)) | (go_at_call 211; exact Calls.quiet_of (HT6.out _)))
            go_wp2_with (first | (refine wpList_store_row rfl 289 _ _ rfl w.heap.size #[.int .i64 0, .int .i64 0, .int .i64 0, .bool false, .string ⟨#[]⟩] rfl rfl 289 _ HG1.out HI.out rfl HZ1.out ?_))
            exact bodyPost_ret (results_row_tmp rfl _ _ w.heap.size 289 #[.int .i64 0, .int .i64 0, .int .i64 0, .bool false, .string ⟨#[]⟩] (0, 0) _ rfl (setRow_heap _ _ _ _ _ _ HG1.out) Tryz.underlying289 rfl HI.out) rfl ⟨rfl, (below_setRow (below_drewN HB2.out _) (Nat.le_refl _) _)⟩
        · have u2 : ((a4 : Int) == (a5 : Int)) = false := by rw [beq_eq_false_iff_ne]; omega
          have u2' : (a4 == a5) = false := by rw [beq_eq_false_iff_ne]; omega
          have e : q = false := by rw [← HQ.out]; simp [v2]
          subst e
          clear HQ v1
          go_wp2_with fail
          go_quiet (first | (go_at_call 209; exact quietS (HN4.out _)) | (go_at_call 210; exact quietS (HC5.out _)) | (go_at_call 211; exact Calls.quiet_of (HT6.out _)))
          go_wp2_with (first | (refine wpList_store_row rfl 289 _ _ rfl w.heap.size #[.int .i64 0, .int .i64 0, .int .i64 0, .bool false, .string ⟨#[]⟩] rfl rfl 289 _ HG1.out HI.out rfl HZ1.out ?_))
          exact bodyPost_ret (results_row_tmp rfl _ _ w.heap.size 289 #[.int .i64 0, .int .i64 0, .int .i64 0, .bool false, .string ⟨#[]⟩] (0, 0) _ rfl (setRow_heap _ _ _ _ _ _ HG1.out) Tryz.underlying289 rfl HI.out) rfl ⟨rfl, (below_setRow (below_drewN HB2.out _) (Nat.le_refl _) _)⟩
      · have u1 : decide (0 < a1) = false := decide_eq_false v1
        have e : q = false := by rw [← HQ.out]; simp [v1]
        subst e
        clear HQ v1
        go_wp2_with fail
        go_quiet (first | (go_at_call 209; exact quietS (HN4.out _)) | (go_at_call 210; exact quietS (HC5.out _)) | (go_at_call 211; exact Calls.quiet_of (HT6.out _)))
        go_wp2_with (first | (refine wpList_store_row rfl 289 _ _ rfl w.heap.size #[.int .i64 0, .int .i64 0, .int .i64 0, .bool false, .string ⟨#[]⟩] rfl rfl 289 _ HG1.out HI.out rfl HZ1.out ?_))
        exact bodyPost_ret (results_row_tmp rfl _ _ w.heap.size 289 #[.int .i64 0, .int .i64 0, .int .i64 0, .bool false, .string ⟨#[]⟩] (0, 0) _ rfl (setRow_heap _ _ _ _ _ _ HG1.out) Tryz.underlying289 rfl HI.out) rfl ⟨rfl, (below_setRow (below_drewN HB2.out _) (Nat.le_refl _) _)⟩
set_option maxRecDepth 100000 in
theorem parse59 (s : ByteArray) (hs : s.size = 64) (w : World) :
    Calls Tryz.prog 194 #[.string s] w fun e w' => e = .returned (.tuple #[.agg (secV (parseS s.data.toList)), .bool (parseB s.data.toList)]) ∧ Below w.heap.size w w' := by
  unfold parseS parseB says
  cases hb : badSize s.data.toList with
  | true => exact parse59_bad s hs w hb
  | false =>
    have h := parse59_good s hs w hb
    cases hv : isValid s.data.toList with
    | true => rw [hv] at h; exact h
    | false => rw [hv] at h; exact h
end Go.Proofs.YtjanddnlhaionaaGreatDoor.L6
