/-
  The contract of the iterator that sectors returns. No condition.
-/
import Derived.Test.YtjanddnlhaionaaGreatDoorL6YE
import Derived.RangeFuncNested
import Derived.RangeFuncBound
import Derived.RangeFuncCalls
import Derived.RangeFuncLeaves
import Derived.Shelf.Abstract
import Derived.Shelf.RegionOpen
import Derived.WalkKit
import Derived.OwnWalkIn
import Derived.TacticsInMore
import Derived.LoopNIn
import Derived.LoopIn
import Derived.Sort.CutIn
import Derived.Sort.BigQuietIn
import Derived.Stop.RegionWithIn
import Derived.BigRegionIn
namespace Go.Proofs.YtjanddnlhaionaaGreatDoor.L6
open Go.RowKit Go.Shelf
attribute [local go_sem] Oper.semAt_some

abbrev Item := { x : ByteArray × Int // x.2 = 0 → x.1.size = 64 }
def encR (x : Item) : Array Value := #[.string x.1.1, .int .i64 x.1.2]
/-- The answers of Read that a visitor of the sectors sees. -/
structure Gives (rd : Nat → ByteArray × Int) (L : List Item) : Prop where
  at_ : ∀ i (h : i < L.length), rd i = L[i].1 ∧ L[i].1.2 ≠ 6 ∧ (L[i].1.2 ≠ 0 → i + 1 = L.length)
  end_ : (∀ x ∈ L, x.1.2 = 0) → (rd L.length).2 = 6
def GB (B Bx k : Nat) : Prop := B ≤ k ∧ k ≠ Bx

set_option maxRecDepth 100000 in
set_option maxHeartbeats 2000000 in
theorem iter58_in (n : Nat) (hn : 1 ≤ n) (lp B Bx : Nat) (dv : Value) (Q : World → Prop) (rd : Nat → ByteArray × Int) (L : List Item) (hL : Gives rd L) (hLl : L.length ≤ 1000000)
    (HQb : ∀ W W', Q W → Below W.heap.size W W' → Q W') (HQt : ∀ W W', Q W → Turn (GB B Bx) W W' → Q W')
    (HR : ∀ W, Q W → ∀ i : Nat, Calls Tryz.prog 193 #[dv, .int .i64 (i : Int)] W fun e w' => e = .returned (.tuple #[.string (rd i).1, .int .i64 (rd i).2]) ∧ Below W.heap.size W w')
    (J Jx : List Item → World → Prop) (W : World) (hJ : AbidesFrom W.heap.size J)
    (hY : ∀ pre x W1, J pre W1 → pre.length < L.length → YieldAt Fence.wide (n - 1) Tryz.prog lp (encR x) W1 fun e W' =>
      (e = .returned (.bool true) ∧ J (pre ++ [x]) W' ∧ Turn (GB B Bx) W1 W') ∨ (e = .returned (.bool false) ∧ Jx (pre ++ [x]) W'))
    (hQ : Q W) (hBx : W.cell? ⟨Bx, 0, none⟩ = some dv) (h0 : J [] W) :
    CallsIn Fence.wide n Tryz.prog 192 #[.func (.yield lp) #[] #[], .pointer (some ⟨Bx, 0, none⟩)] W fun e W' => (∃ v, e = .returned v) ∧
      ((∃ ys, ys = L ∧ J ys W') ∨ (∃ pre, pre <+: L ∧ Jx pre W')) := by
  have HY := Lib.hid hY
  have HJ := Lib.hid hJ
  have HLL := Lib.hid hL
  have HQB := Lib.hid HQb
  have HQT := Lib.hid HQt
  have HRD := Lib.hid HR
  have HST : Hid (Q W ∧ W.cell? ⟨Bx, 0, none⟩ = some dv ∧ J [] W) := ⟨hQ, hBx, h0⟩
  clear hY hJ hL HQb HQt HR hQ hBx h0
  refine callsIn_of_wp Tryz.func192 rfl trivial ?_ rfl
  simp only [Tryz.ntmps192, List.size_toArray, List.length_cons, List.length_nil, Nat.reduceAdd, Nat.reduceSub, Array.replicate_succ, Array.replicate_zero, List.push_toArray, List.append_toArray, List.nil_append, List.cons_append]
  gi_wp2
  gi_loopw [3] (fun s3 wr => ∃ (i : Nat), s3 = .int .i64 (i : Int) ∧ i ≤ L.length ∧ Hid (Q wr ∧ wr.cell? ⟨Bx, 0, none⟩ = some dv ∧ J (L.take i) wr ∧ ∀ x ∈ L.take i, x.1.2 = 0)) (fun s3 _ => L.length + 1 - (intOf s3).toNat)
  case atStart => exact ⟨0, rfl, Nat.zero_le _, HST.out.1, HST.out.2.1, HST.out.2.2, fun x hx => by simp at hx⟩
  case round =>
    obtain ⟨i, rfl, hi, HI⟩ := hrel
    clear HST
    have c0 := HI.out.2.1
    have HC := Lib.hid (HRD.out wr HI.out.1 i)
    obtain ⟨⟨tx, er⟩, hrd⟩ : ∃ p, rd i = p := ⟨_, rfl⟩
    rw [hrd] at HC
    simp only at HC
    have HRI := Lib.hid hrd
    clear hrd
    gi_upto_region 3 with (refine ⟨trivial, ?_⟩; gi_at_call 193; refine (callsIn_wide.2 HC.out).mono ?_; rintro e w2 ⟨rfl, hb2⟩)
    have HQ2 : Hid (Q w2 ∧ w2.cell? ⟨Bx, 0, none⟩ = some dv ∧ J (L.take i) w2 ∧ ∀ x ∈ L.take i, x.1.2 = 0) := by
      refine ⟨HQB.out _ _ HI.out.1 hb2, ?_, HJ.out _ _ _ none HI.out.2.2.1 ⟨hb2.os, hb2.tape, hb2.output, hb2.size, fun k hk _ => hb2.block k hk⟩ (fun r e => by cases e), HI.out.2.2.2⟩
      rw [hb2.cell (p := ⟨Bx, 0, none⟩) (World.block_lt_of_cell? wr _ c0)]; exact c0
    clear hb2 c0 HC HI
    by_cases hlt : i < L.length
    · obtain ⟨h1, h2, h3⟩ := HLL.out.at_ i hlt
      have hx : L[i].1 = (tx, er) := by rw [← h1]; exact HRI.out
      rw [hx] at h2 h3
      simp only at h2 h3
      have e6 : (er == (6 : Int)) = false := by rw [beq_eq_false_iff_ne]; exact h2
      have htk : L.take (i + 1) = L.take i ++ [L[i]] := by rw [List.take_succ_eq_append_getElem hlt]
      have hlen : (L.take i).length < L.length := by rw [List.length_take]; omega
      have hyy := HY.out (L.take i) L[i] w2 HQ2.out.2.2.1 hlen
      unfold encR at hyy
      rw [hx] at hyy
      simp only at hyy
      rw [← htk] at hyy
      have HXI := Lib.hid hx
      obtain ⟨fn, tmps, assign, body, hy, hR⟩ := hyy
      have HR := Lib.hid hR
      have H3 := Lib.hid h3
      have HTK := Lib.hid htk
      clear hR h1 h2 h3 hx hlen htk
      gi_wp2_with fail
      refine HR.out.mono ?_
      rintro ee W3 (⟨rfl, hJ3, hk3⟩ | ⟨rfl, hJx3⟩)
      · by_cases h0 : er = 0
        · have e0 : (er != (0 : Int)) = false := by rw [h0]; rfl
          have HN : Hid (Q W3 ∧ W3.cell? ⟨Bx, 0, none⟩ = some dv ∧ J (L.take (i + 1)) W3 ∧ ∀ x ∈ L.take (i + 1), x.1.2 = 0) := by
            refine ⟨HQT.out _ _ HQ2.out.1 hk3, ?_, hJ3, ?_⟩
            · have hc := HQ2.out.2.1
              rw [World.cell?_of_block (a := ⟨Bx, 0, none⟩) (hk3.block Bx (World.block_lt_of_cell? w2 _ hc) (fun h => h.2 rfl))]
              exact hc
            · rw [HTK.out]
              intro x hx
              rcases List.mem_append.1 hx with hx | hx
              · exact HQ2.out.2.2.2 x hx
              · have : x = L[i] := by simpa using hx
                rw [this, HXI.out]; exact h0
          clear hk3 hJ3 HR hy HQ2 HTK H3 h0
          gi_wp2
          go_roundw
          case rel => exact ⟨i + 1, by go_num, by omega, HN⟩
          case measure => simp [intOf]; omega
        · have e0 : (er != (0 : Int)) = true := by rw [bne, Bool.not_eq_true', beq_eq_false_iff_ne]; exact h0
          have hil := H3.out h0
          have HE : Hid (J L W3) := by
            unfold Hid
            rw [hil, List.take_length] at hJ3
            exact hJ3
          clear hk3 hJ3 HR hy HQ2 HTK H3 h0
          gi_wp2
          refine bodyPost_ret (results_none rfl _ _ _) rfl ?_
          exact ⟨⟨_, rfl⟩, .inl ⟨_, rfl, HE.out⟩⟩
      · have HE : Hid (Jx (L.take (i + 1)) W3) := hJx3
        clear hJx3 HR hy HQ2 HTK H3
        gi_wp2
        refine bodyPost_ret (results_none rfl _ _ _) rfl ?_
        exact ⟨⟨_, rfl⟩, .inr ⟨_, List.take_prefix _ _, HE.out⟩⟩
    · have hil : i = L.length := by omega
      have h6 : er = 6 := by
        have h := HLL.out.end_ (by have := HQ2.out.2.2.2; rw [hil, List.take_length] at this; exact this)
        rw [← hil, HRI.out] at h
        exact h
      subst h6
      have HE : Hid (J L w2) := by
        have := HQ2.out.2.2.1
        rw [hil, List.take_length] at this
        exact this
      clear HQ2 hlt
      gi_wp2_with fail
      refine ⟨(fun _ h => by cases h), ?_⟩
      gi_wp2
      refine bodyPost_ret (results_none rfl _ _ _) rfl ?_
      exact ⟨⟨_, rfl⟩, .inl ⟨_, rfl, HE.out⟩⟩

set_option maxRecDepth 100000 in
theorem iter58 (n : Nat) (hn : 1 ≤ n) (B Bx : Nat) (dv : Value) (Q : World → Prop) (rd : Nat → ByteArray × Int) (L : List Item) (hL : Gives rd L) (hLl : L.length ≤ 1000000)
    (HQb : ∀ W W', Q W → Below W.heap.size W W' → Q W') (HQt : ∀ W W', Q W → Turn (GB B Bx) W W' → Q W')
    (HR : ∀ W, Q W → ∀ i : Nat, Calls Tryz.prog 193 #[dv, .int .i64 (i : Int)] W fun e w' => e = .returned (.tuple #[.string (rd i).1, .int .i64 (rd i).2]) ∧ Below W.heap.size W w')
    (w : World) (hQ : Q w) (hBx : w.cell? ⟨Bx, 0, none⟩ = some dv) :
    SeqStopsK Fence.wide n Tryz.prog 192 #[.pointer (some ⟨Bx, 0, none⟩)] encR (Turn (GB B Bx)) (fun ys => ys = L) (fun pre => pre <+: L) L.length w := by
  intro lp J Jx W hb hJ _ hY h0
  have hlt := World.block_lt_of_cell? w _ hBx
  exact iter58_in n hn lp B Bx dv Q rd L hL hLl HQb HQt HR J Jx W hJ hY (HQb _ _ hQ hb) (by rw [hb.cell (p := ⟨Bx, 0, none⟩) hlt]; exact hBx) h0
end Go.Proofs.YtjanddnlhaionaaGreatDoor.L6
