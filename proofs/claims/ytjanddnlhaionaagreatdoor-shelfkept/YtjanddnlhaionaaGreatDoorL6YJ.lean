/-
  Contracts of parts and of the iterator that it returns. No condition.
-/
import Derived.Test.YtjanddnlhaionaaGreatDoorL6YI
namespace Go.Proofs.YtjanddnlhaionaaGreatDoor.L6
open Go.RowKit Go.Shelf
attribute [local go_sem] Oper.semAt_some

set_option maxRecDepth 100000 in
set_option maxHeartbeats 400000 in
theorem parts65 (l r : Int) (s : ByteArray) (w : World) :
    Calls Tryz.prog 198 #[.int .i64 l, .int .i64 r, .string s] w fun e w' => e = .returned (.func (.func 212) #[] #[.pointer (some ⟨w.heap.size + 2, 0, none⟩), .pointer (some ⟨w.heap.size, 0, none⟩), .pointer (some ⟨w.heap.size + 1, 0, none⟩)]) ∧
      w' = ((w.alloc (.cells #[.int .i64 l] 3)).alloc (.cells #[.int .i64 r] 3)).alloc (.cells #[.string s] 9) := by
  go_enter Tryz.func198, Tryz.ntmps198
  go_wp2
  go_ret
  exact ⟨rfl, rfl⟩

def encP (life record : Nat) (s : ByteArray) (x : Fin (needN s.size)) : Array Value := #[.agg (secV (partOf life record s x.1))]
def GP (n k : Nat) : Prop := ¬ (n ≤ k ∧ k ≤ n + 2)
structure Boxes (n life record : Nat) (s : ByteArray) (W : World) : Prop where
  b3 : Boxed W n 3 (.int .i64 (life : Int))
  b4 : Boxed W (n + 1) 3 (.int .i64 (record : Int))
  b5 : Boxed W (n + 2) 9 (.string s)
set_option maxRecDepth 100000 in
theorem Boxes.turn {n life record : Nat} {s : ByteArray} {W W' : World} (h : Boxes n life record s W) (ht : Turn (GP n) W W') : Boxes n life record s W' :=
  ⟨(ht.block n (Array.getElem?_eq_some_iff.1 h.b3).1 (fun hg => hg ⟨by omega, by omega⟩)).trans h.b3, (ht.block (n + 1) (Array.getElem?_eq_some_iff.1 h.b4).1 (fun hg => hg ⟨by omega, by omega⟩)).trans h.b4, (ht.block (n + 2) (Array.getElem?_eq_some_iff.1 h.b5).1 (fun hg => hg ⟨by omega, by omega⟩)).trans h.b5⟩
set_option maxRecDepth 100000 in
theorem Boxes.below {n life record : Nat} {s : ByteArray} {W W' : World} (h : Boxes n life record s W) (hb : Below W.heap.size W W') : Boxes n life record s W' := h.turn (Turn.of_below hb)

set_option maxRecDepth 100000 in
theorem need_in (n i : Nat) (h : i < needN n) : 51 * i ≤ n ∧ min ((i + 1) * 51) n ≤ n ∧ 51 * i ≤ min ((i + 1) * 51) n := by
  unfold needN at h
  split at h
  · have : i = 0 := by omega
    subst this
    omega
  · omega
set_option maxRecDepth 100000 in
theorem part_data (s : ByteArray) (i : Nat) : mkB ((s.data.toList.drop (51 * i)).take 51) = s.extract (51 * i) (min ((i + 1) * 51) s.size) := by
  refine (eq_mkB ?_).symm
  rw [ext_list, List.drop_take]
  by_cases hl : (i + 1) * 51 ≤ s.size
  · rw [Nat.min_eq_left hl, show (i + 1) * 51 - 51 * i = 51 by omega]
  · rw [Nat.min_eq_right (by omega), List.take_of_length_le (by rw [List.length_drop, len_list]; omega), List.take_of_length_le (by rw [List.length_drop, len_list]; omega)]

set_option maxRecDepth 100000 in
set_option maxHeartbeats 2000000 in
theorem iter75_in (m : Nat) (hm : 1 ≤ m) (lp n life record : Nat) (s : ByteArray) (hs : s.size ≤ 1000000000)
    (J Jx : List (Fin (needN s.size)) → World → Prop) (W : World) (hJ : AbidesFrom W.heap.size J)
    (hY : ∀ pre x W1, J pre W1 → pre.length < needN s.size → YieldAt Fence.wide (m - 1) Tryz.prog lp (encP life record s x) W1 fun e W' =>
      (e = .returned (.bool true) ∧ J (pre ++ [x]) W' ∧ Turn (GP n) W1 W') ∨ (e = .returned (.bool false) ∧ Jx (pre ++ [x]) W'))
    (hB : Boxes n life record s W) (h0 : J [] W) :
    CallsIn Fence.wide m Tryz.prog 212 #[.func (.yield lp) #[] #[], .pointer (some ⟨n + 2, 0, none⟩), .pointer (some ⟨n, 0, none⟩), .pointer (some ⟨n + 1, 0, none⟩)] W fun e W' => (∃ v, e = .returned v) ∧
      ((∃ ys, ys = List.finRange (needN s.size) ∧ J ys W') ∨ (∃ pre, pre <+: List.finRange (needN s.size) ∧ Jx pre W')) := by
  have HY := Lib.hid hY
  have HJ := Lib.hid hJ
  have HST : Hid (Boxes n life record s W ∧ J [] W) := ⟨hB, h0⟩
  have c5 := hB.b5.cell
  have HN := Lib.hid (need17n s.size (by omega))
  clear hY hJ hB h0
  refine callsIn_of_wp Tryz.func212 rfl trivial ?_ rfl
  simp only [Tryz.ntmps212, List.size_toArray, List.length_cons, List.length_nil, Nat.reduceAdd, Nat.reduceSub, Array.replicate_succ, Array.replicate_zero, List.push_toArray, List.append_toArray, List.nil_append, List.cons_append]
  obtain ⟨nd, hnd⟩ : ∃ nd, needN s.size = nd := ⟨_, rfl⟩
  rw [hnd] at HN
  gi_wp2_with (refine ⟨trivial, ?_⟩; gi_at_call 197; refine (callsIn_wide.2 (HN.out _)).mono ?_; rintro e w' ⟨rfl, rfl⟩)
  have HND := Lib.hid hnd
  clear c5 HN
  gi_loopw [13] (fun s13 wr => ∃ (i : Nat), s13 = .int .i64 (i : Int) ∧ i ≤ nd ∧ Hid (Boxes n life record s wr ∧ J ((List.finRange (needN s.size)).take i) wr)) (fun s13 _ => nd - (intOf s13).toNat)
  case atStart => exact ⟨0, rfl, Nat.zero_le _, HST.out.1, by rw [List.take_zero]; exact HST.out.2⟩
  case round =>
    obtain ⟨i, rfl, hi, HI⟩ := hrel
    clear HST
    by_cases hlt : i < nd
    · have hlti : (i : Int) < (nd : Int) := by omega
      obtain ⟨q1, q2, q3⟩ := need_in s.size i (by rw [hnd]; exact hlt)
      have hPD := part_data s i
      obtain ⟨en, hen⟩ : ∃ en, min ((i + 1) * 51) s.size = en := ⟨_, rfl⟩
      rw [hen] at q2 q3 hPD
      have hen2 : (if (s.size : Int) < ((i : Int) + 1) * 51 then (s.size : Int) else ((i : Int) + 1) * 51) = (en : Int) := by split <;> omega
      have HPD := Lib.hid hPD
      have c5 := HI.out.1.b5.cell
      have c3 := HI.out.1.b3.cell
      have c4 := HI.out.1.b4.cell
      clear hPD hnd
      gi_upto_region 5 with fail
      have hsl : ∀ W, (Instr.slice 9 (.string s) (some (.int .i64 ((i : Int) * 51))) (some (.int .i64 (en : Int))) none).run Tryz.prog W = .ok (.string (s.extract (51 * i) en)) W := fun W => slice_str s (51 * i) en q3 q2 _ _ (by omega) rfl W
      have hndl : nd ≤ 1000000001 := by rw [← HND.out]; unfold needN; split <;> omega
      have w1 : IntKind.i64.wrap ((nd : Int) - 1) = (nd : Int) - 1 := by rw [IntKind.wrap_i64]; omega
      have w2 : IntKind.i64.wrap ((i : Int) * 51) = (i : Int) * 51 := by rw [IntKind.wrap_i64]; omega
      have hlast : ((i : Int) == (nd : Int) - 1) = decide (i + 1 = nd) := by
        by_cases hq : i + 1 = nd
        · rw [decide_eq_true hq, beq_iff_eq]; omega
        · rw [decide_eq_false hq, beq_eq_false_iff_ne]; omega
      obtain ⟨la, hla⟩ : ∃ la, decide (i + 1 = nd) = la := ⟨_, rfl⟩
      rw [hla] at hlast
      have HX : Hid (secV (partOf life record s i) = #[.int .i64 (life : Int), .int .i64 (record : Int), .int .i64 (i : Int), .bool la, .string (s.extract (51 * i) en)]) := by
        unfold Hid secV partOf
        rw [HPD.out, HND.out, hla]
      obtain ⟨X, hX⟩ : ∃ X, secV (partOf life record s i) = X := ⟨_, rfl⟩
      have HXX := Lib.hid hX
      rw [hX] at HX
      clear hla hX hlti hen2 q1 q2 q3 hen
      have z := Tryz.z112
      have HA := HI.out.1.below (((Below.refl wr.heap.size wr).alloc (Nat.le_refl _) (.cells #[.int .i64 0, .int .i64 0, .int .i64 0, .bool false, .string ⟨#[]⟩] 289)).drew)
      have d5 := HA.b5.cell
      have d3 := HA.b3.cell
      have d4 := HA.b4.cell
      have g5 : (wr.alloc (.cells #[.int .i64 0, .int .i64 0, .int .i64 0, .bool false, .string ⟨#[]⟩] 289)).cell? ⟨n + 2, 0, none⟩ = _ := d5
      have g3 : (wr.alloc (.cells #[.int .i64 0, .int .i64 0, .int .i64 0, .bool false, .string ⟨#[]⟩] 289)).cell? ⟨n, 0, none⟩ = _ := d3
      have g4 : (wr.alloc (.cells #[.int .i64 0, .int .i64 0, .int .i64 0, .bool false, .string ⟨#[]⟩] 289)).cell? ⟨n + 1, 0, none⟩ = _ := d4
      clear HA
      gi_cut [8] from 22 (fun s8 wx => s8 = .pointer (some ⟨wr.heap.size, 0, none⟩) ∧ wx = (wr.alloc (.cells X 289)).drew)
      case first =>
        gi_region
        all_goals
          gi_wp2_with fail
          gi_meet
          case rel => exact ⟨rfl, by rw [HX.out]⟩
      case rest =>
        obtain ⟨rfl, rfl⟩ := hcut
        have hif : i < (List.finRange (needN s.size)).length := by rw [List.length_finRange, HND.out]; exact hlt
        have htk : (List.finRange (needN s.size)).take (i + 1) = (List.finRange (needN s.size)).take i ++ [⟨i, by rw [HND.out]; exact hlt⟩] := by rw [List.take_succ_eq_append_getElem hif]; simp
        have hlen : ((List.finRange (needN s.size)).take i).length < needN s.size := by rw [List.length_take, List.length_finRange, HND.out]; omega
        have hbw : Below wr.heap.size wr (wr.alloc (.cells X 289)).drew := ((Below.refl _ _).alloc (Nat.le_refl _) _).drew
        have hyy := HY.out ((List.finRange (needN s.size)).take i) ⟨i, by rw [HND.out]; exact hlt⟩ (wr.alloc (.cells X 289)).drew (HJ.out _ _ _ none HI.out.2 ⟨hbw.os, hbw.tape, hbw.output, hbw.size, fun k hk _ => hbw.block k hk⟩ (fun r e => by cases e)) hlen
        unfold encP at hyy
        rw [← htk] at hyy
        obtain ⟨fn, tmps, assign, body, hy, hR⟩ := hyy
        have HR := Lib.hid hR
        have HBO := Lib.hid (HI.out.1.below hbw)
        have hrow : (wr.alloc (.cells X 289)).drew.heap[wr.heap.size]? = some (.cells (secV (partOf life record s i)) 289 (0, 0)) := by rw [HXX.out]; exact heap_alloc_new _ _
        obtain ⟨b0, b1, b2, b3, b4⟩ := sec_cells hrow
        unfold secV partOf at hy
        unfold partOf at b0 b1 b2 b3 b4
        simp only at hy b0 b1 b2 b3 b4
        clear hR hlen htk hif hbw c3 c4 c5 d3 d4 d5 g3 g4 g5 z hsl w1 w2 hlast HX HXX HPD HI hrow
        generalize (wr.alloc (.cells X 289)).drew = w2 at HR HBO hy b0 b1 b2 b3 b4 ⊢
        generalize decide (i + 1 = needN s.size) = l2 at hy b3
        generalize mkB (((s.data.toList.drop (51 * i)).take 51)) = d2 at hy b4
        gi_wp2_with fail
        refine HR.out.mono ?_
        rintro ee W3 (⟨rfl, hJ3, hk3⟩ | ⟨rfl, hJx3⟩)
        · have HN : Hid (Boxes n life record s W3 ∧ J ((List.finRange (needN s.size)).take (i + 1)) W3) := ⟨HBO.out.turn hk3, hJ3⟩
          clear hJ3 hk3 HR hy HBO b0 b1 b2 b3 b4
          gi_wp2
          go_roundw
          case rel => exact ⟨i + 1, by go_num, by omega, HN⟩
          case measure => simp [intOf]; omega
        · have HE : Hid (Jx ((List.finRange (needN s.size)).take (i + 1)) W3) := hJx3
          clear hJx3 HR hy HBO b0 b1 b2 b3 b4
          gi_wp2
          refine bodyPost_ret (results_none rfl _ _ _) rfl ?_
          exact ⟨⟨_, rfl⟩, .inr ⟨_, List.take_prefix _ _, HE.out⟩⟩
    · clear hnd
      have hin : ¬ (i : Int) < (nd : Int) := by omega
      have HE : Hid (J (List.finRange (needN s.size)) wr) := by
        have := HI.out.2
        rw [List.take_of_length_le (by rw [List.length_finRange, HND.out]; omega)] at this
        exact this
      clear HI
      gi_wp2
      go_end0
      exact ⟨⟨_, rfl⟩, .inl HE.out⟩

set_option maxRecDepth 100000 in
theorem iter75 (m : Nat) (hm : 1 ≤ m) (n life record : Nat) (s : ByteArray) (hs : s.size ≤ 1000000000) (w : World) (hB : Boxes n life record s w) :
    SeqStopsK Fence.wide m Tryz.prog 212 #[.pointer (some ⟨n + 2, 0, none⟩), .pointer (some ⟨n, 0, none⟩), .pointer (some ⟨n + 1, 0, none⟩)] (encP life record s) (Turn (GP n)) (fun ys => ys = List.finRange (needN s.size)) (fun pre => pre <+: List.finRange (needN s.size)) (needN s.size) w := by
  intro lp J Jx W hb hJ _ hY h0
  exact iter75_in m hm lp n life record s hs J Jx W hJ hY (hB.below hb) h0
end Go.Proofs.YtjanddnlhaionaaGreatDoor.L6
