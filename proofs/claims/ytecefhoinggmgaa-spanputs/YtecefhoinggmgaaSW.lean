/-
  Contract of the document's insert. No condition.
-/
import Derived.Test.YtecefhoinggmgaaSS
import Derived.Deep.Cut
import Derived.Test.YtecefhoinggmgaaTA
namespace Go.Proofs.Ytecefhoinggmgaa
open Go.RowKit

def intV (i : Int) : Value := .int .i64 i
/-- The slice v reads as the numbers l, below block B. -/
def IntsAt (w : World) (B : Nat) (v : Value) (l : List Int) : Prop :=
  ∃ A cap, v = .slice A l.length cap ∧ l.length ≤ cap ∧ cap ≤ maxLen ∧ (0 < l.length → ∃ b o, A = some ⟨b, o, none⟩ ∧ b < B ∧ ∀ i (h : i < l.length), w.cell? ⟨b, o + i, none⟩ = some (.int .i64 l[i]))
theorem IntsAt.keep {w w' : World} {B : Nat} {v : Value} {l : List Int} (h : IntsAt w B v l) (hk : ∀ b o, b < B → w'.cell? ⟨b, o, none⟩ = w.cell? ⟨b, o, none⟩) : IntsAt w' B v l := by
  obtain ⟨A, cap, rfl, h1, h2, h3⟩ := h
  refine ⟨A, cap, rfl, h1, h2, fun hl => ?_⟩
  obtain ⟨b, o, rfl, hb, hr⟩ := h3 hl
  exact ⟨b, o, rfl, hb, fun i hi => (hk b _ hb).trans (hr i hi)⟩
theorem IntsAt.below {w w' : World} {B : Nat} {v : Value} {l : List Int} (h : IntsAt w B v l) (hb : Below B w w') : IntsAt w' B v l :=
  h.keep fun b o hl => hb.cell (p := ⟨b, o, none⟩) hl
theorem IntsAt.more {w : World} {B B' : Nat} {v : Value} {l : List Int} (h : IntsAt w B v l) (hB : B ≤ B') : IntsAt w B' v l := by
  obtain ⟨A, cap, rfl, h1, h2, h3⟩ := h
  refine ⟨A, cap, rfl, h1, h2, fun hl => ?_⟩
  obtain ⟨b, o, rfl, hb, hr⟩ := h3 hl
  exact ⟨b, o, rfl, by omega, hr⟩
theorem IntsAt.step {w w' : World} {v : Value} {l : List Int} (h : IntsAt w w.heap.size v l) (hb : Below w.heap.size w w') : IntsAt w' w'.heap.size v l :=
  (h.below hb).more hb.size
/-- The slice v is the call's own, and reads as l. -/
def OwnI (w : World) (n₀ : Nat) (v : Value) (l : List Int) : Prop := w.ownsRow n₀ 3 1 v l.length (l.map intV)
theorem OwnI.nil (w : World) (n₀ : Nat) : OwnI w n₀ (.slice none 0 0) [] := World.ownsRow_nil w n₀ 3 1
theorem OwnI.slice {w : World} {n₀ : Nat} {v : Value} {l : List Int} (h : OwnI w n₀ v l) : ∃ A cap, v = .slice A l.length cap := by
  rcases h.2 with ⟨rfl, h0⟩ | ⟨g, cap, _, rfl, _⟩
  · exact ⟨none, 0, by rw [h0]⟩
  · exact ⟨_, cap, rfl⟩
theorem OwnI.below {w w' : World} {n₀ : Nat} {v : Value} {l : List Int} (h : OwnI w n₀ v l) (hb : Below w.heap.size w w') : OwnI w' n₀ v l :=
  World.ownsRow.kept h (grown_of_below hb none) (by cases v.ownBlock <;> simp)
theorem OwnI.ints {w : World} {n₀ : Nat} {v : Value} {l : List Int} (h : OwnI w n₀ v l) : IntsAt w w.heap.size v l := by
  rcases h.2 with ⟨rfl, h0⟩ | ⟨g, cap, cur, rfl, hb, hg, hnc, hcm, _, htake⟩
  · exact ⟨none, 0, by rw [h0], by omega, Nat.zero_le _, fun hl => by omega⟩
  · refine ⟨some ⟨g, 0, none⟩, cap, rfl, hnc, hcm, fun _ => ⟨g, 0, rfl, (Array.getElem?_eq_some_iff.1 hg).1, fun i hi => ?_⟩⟩
    rw [Nat.zero_add, cell_of_row w g i cur 3 (0, 0) hg, ← Array.getElem?_toList]
    have e : (cur.toList.take (l.length * 1))[i]? = (l.map intV)[i]? := by rw [htake]
    rw [List.getElem?_take, if_pos (by omega), List.getElem?_map, List.getElem?_eq_getElem hi] at e
    exact e

theorem Try.info3 : (Try.prog.info? 3).map (fun i => (i.zero, i.size, i.bytes)) = some (some (.int .i64 0), 1, 8) := by kernel_rfl

theorem wpList_append_int {w : World} {ops : Array Oper} {rest : List Oper} {o : Oper} {a : Act} {Q : Exit → Act → World → Prop} (hgd : o.guard = none) (s x : Operand)
    (ho : o.op = .call { callee := .builtin .append, args := #[s, x], argTypes := #[71, 71] })
    (n₀ : Nat) (v : Value) (l : List Int) (b : Nat) (i : Int) (hs : a.eval s = v) (hx : a.eval x = .slice (some ⟨b, 0, none⟩) 1 1) (h : OwnI w n₀ v l) (hn : n₀ ≤ w.heap.size) (hc : w.cell? ⟨b, 0, none⟩ = some (.int .i64 i)) (hl : l.length ≤ 1000000)
    (hk : ∀ v' w', OwnI w' n₀ v' (l ++ [i]) → Below n₀ w w' → wpList Try.prog ops Q rest (a.put o.dst v') w') :
    wpList Try.prog ops Q (o :: rest) a w := by
  obtain ⟨i0, hi, hz0, hz1, hz2⟩ := info_parts Try.info3
  refine wpList_append_own_at w hgd s x 71 ho n₀ 3 i0 _ 1 8 Try.underlying71 hi hz0 hz1 hz2 rfl (by omega) v l.length (l.map intV) hs h ⟨b, 0, none⟩ 1 1 [intV i] hx rfl ?_ ?_ (by unfold maxLen; omega) (by omega) hn ?_
  · intro j u hj
    match j, hj with
    | 0, hj =>
      have : u = intV i := by simpa using hj.symm
      subst this
      simpa [Addr.add, intV] using hc
  · intro u hu
    have : u = intV i := by simpa using hu
    subst this
    rfl
  · intro v' w' ho' hg _ _
    refine hk v' w' ?_ ⟨hg.os, hg.tape, hg.output, hg.size, fun k hk => ?_⟩
    · unfold OwnI
      rw [List.length_append, List.map_append]
      exact ho'
    · rcases h.2 with ⟨rfl, _⟩ | ⟨g, cap, cur, rfl, hb, hgg, _⟩
      · exact hg.block k (by omega) (by simp [Value.ownBlock])
      · refine hg.block k (by omega) (fun e => ?_)
        have : k = g := by simpa [Value.ownBlock] using e
        omega

def insStep (n : Int) (st : List Int × Bool) (a : Int) : List Int × Bool :=
  let st1 := if st.2 = false ∧ n ≤ a then (st.1 ++ [n], true) else st
  if a = n then st1 else (st1.1 ++ [a], st1.2)
theorem ins_true (n : Int) : ∀ (l out : List Int), l.foldl (insStep n) (out, true) = (out ++ l.filter (fun x => decide (x ≠ n)), true)
  | [], out => by simp
  | a :: l, out => by
    rw [List.foldl_cons]
    by_cases h : a = n
    · have e : insStep n (out, true) a = (out, true) := by simp [insStep, h]
      rw [e, ins_true n l out, List.filter_cons, if_neg (by simpa using h)]
    · have e : insStep n (out, true) a = (out ++ [a], true) := by simp [insStep, h]
      rw [e, ins_true n l _, List.filter_cons, if_pos (by simpa using h)]
      simp
def insEnd (n : Int) (st : List Int × Bool) : List Int := if st.2 then st.1 else st.1 ++ [n]
theorem ins_eq (n : Int) : ∀ (l out : List Int), insEnd n (l.foldl (insStep n) (out, false)) = out ++ insL l n
  | [], out => rfl
  | a :: l, out => by
    rw [List.foldl_cons, insL]
    by_cases h : n ≤ a
    · rw [if_pos h]
      by_cases e : a = n
      · have e1 : insStep n (out, false) a = (out ++ [n], true) := by simp [insStep, e]
        rw [e1, ins_true, List.filter_cons, if_neg (by simpa using e)]
        simp [insEnd]
      · have e1 : insStep n (out, false) a = (out ++ [n, a], true) := by simp [insStep, h, e]
        rw [e1, ins_true, List.filter_cons, if_pos (by simpa using e)]
        simp [insEnd]
    · rw [if_neg h]
      have e : ¬ a = n := by omega
      have e1 : insStep n (out, false) a = (out ++ [a], false) := by simp [insStep, h, e]
      rw [e1, ins_eq n l]
      simp
theorem insL_length : ∀ (l : List Int) (n : Int), (insL l n).length ≤ l.length + 1
  | [], _ => by simp [insL]
  | a :: r, n => by
    rw [insL]
    split
    · have := List.length_filter_le (fun x => decide (x ≠ n)) (a :: r)
      simp only [List.length_cons] at this ⊢
      omega
    · have := insL_length r n
      simp only [List.length_cons]
      omega
theorem insFold_length (n : Int) : ∀ (l : List Int) (st : List Int × Bool), (l.foldl (insStep n) st).1.length ≤ st.1.length + 2 * l.length
  | [], _ => by simp
  | a :: l, st => by
    rw [List.foldl_cons]
    have h1 := insFold_length n l (insStep n st a)
    have h2 : (insStep n st a).1.length ≤ st.1.length + 2 := by
      unfold insStep
      split <;> split <;> simp
    simp only [List.length_cons]
    omega

set_option maxHeartbeats 800000 in
theorem insert49 (l : List Int) (n : Int) (v : Value) (w : World) (h : IntsAt w w.heap.size v l) (hlen : l.length ≤ 100000) :
    Calls Try.prog 49 #[v, .int .i64 n] w fun e w' => ∃ v', e = .returned v' ∧ OwnI w' w.heap.size v' (insL l n) ∧ Below w.heap.size w w' := by
  obtain ⟨A, cap, rfl, h1, h2, h3⟩ := h
  unfold maxLen at h2
  obtain ⟨ans, hans⟩ : ∃ ans, insL l n = ans := ⟨_, rfl⟩
  rw [hans]
  have HE : Hid (insEnd n (l.foldl (insStep n) ([], false)) = ans) := (ins_eq n l []).trans hans
  clear hans
  go_enter Try.func49, Try.ntmps49
  go_wp2
  go_loopw [5, 6, 7] (fun s5 s6 i wr => ∃ (k : Nat) (out : List Int) (put : Bool), k ≤ l.length ∧ i = .int .i64 k ∧ s6 = .bool put ∧ OwnI wr w.heap.size s5 out ∧ Hid (Below w.heap.size w wr) ∧ Hid ((l.take k).foldl (insStep n) ([], false) = (out, put))) (fun _ _ i _ => l.length - (intOf i).toNat)
  case atStart => exact ⟨0, [], false, Nat.zero_le _, rfl, rfl, OwnI.nil _ _, Below.refl _ _, rfl⟩
  case round =>
    obtain ⟨k, out, put, hk, rfl, rfl, hown, HBW, HF⟩ := hrel
    have HO := Lib.hid hown
    obtain ⟨sA, sc, rfl⟩ := hown.slice
    clear hown
    have hol : out.length ≤ 300000 := by
      have := insFold_length n (l.take k) ([], false)
      rw [HF.out] at this
      simp only [List.length_nil, List.length_take] at this
      omega
    by_cases hlt : k < l.length
    · obtain ⟨b, o, rfl, hb, hr⟩ := h3 (by omega)
      have hc := hr k hlt
      have htk : (l.take (k + 1)).foldl (insStep n) ([], false) = insStep n (out, put) l[k] := by
        rw [List.take_succ_eq_append_getElem hlt, List.foldl_append, HF.out]; rfl
      have HR := Lib.hid h3
      clear hr h3
      generalize l[k] = a at hc htk
      have HTK := Lib.hid htk
      have HC : Hid (∀ W, Below w.heap.size w W → W.cell? ⟨b, o + k, none⟩ = some (.int .i64 a)) := fun W h => (h.cell (p := ⟨b, o + k, none⟩) hb).trans hc
      have c0 := HC.out _ HBW.out
      have hbw : b < wr.heap.size := Nat.lt_of_lt_of_le hb HBW.out.size
      have hws : w.heap.size ≤ wr.heap.size := HBW.out.size
      clear hc htk HF
      cases put with
      | true =>
        cases hne : (a != n) with
        | false =>
          have he : a = n := by simpa using hne
          have HN : Hid ((l.take (k + 1)).foldl (insStep n) ([], false) = (out, true)) := by unfold Hid; rw [HTK.out]; simp [insStep, he]
          clear HTK
          go_wp2
          go_roundw
          case rel => exact ⟨k + 1, out, true, by omega, by go_num, rfl, HO.out, HBW, HN⟩
          case measure => simp [intOf]; omega
        | true =>
          have he : ¬ a = n := by simpa using hne
          have HOA10 := Lib.hid (HO.out.below (below_new wr (.cells #[.int .i64 a] 3)))
          have HBA10 := Lib.hid (HBW.out.alloc HBW.out.size (.cells #[.int .i64 a] 3))
          have HSZ10 := Lib.hid HBA10.out.size
          have HCC10 : Hid ((wr.alloc (.cells #[.int .i64 a] 3)).cell? ⟨wr.heap.size, 0, none⟩ = some (.int .i64 a)) := by unfold Hid; simp [go_sem]
          go_wp2_with (at_builtin; go_must (refine wpList_append_int rfl _ _ rfl w.heap.size _ (out) wr.heap.size a rfl rfl HOA10.out HSZ10.out HCC10.out (by first | omega | (simp; omega)) ?_))
          rintro v10 w10 ho10 hb10
          have HO10 := Lib.hid ho10
          have HB10 : Hid (Below w.heap.size w w10) := HBA10.out.trans hb10
          have c010 := HC.out _ HB10.out
          have hbw10 : b < w10.heap.size := Nat.lt_of_lt_of_le hb HB10.out.size
          obtain ⟨sA10, sc10, rfl⟩ := ho10.slice
          clear ho10 hb10
          have HN : Hid ((l.take (k + 1)).foldl (insStep n) ([], false) = (out ++ [a], true)) := by unfold Hid; rw [HTK.out]; simp [insStep, he]
          clear HTK
          go_wp2
          go_roundw
          case rel => exact ⟨k + 1, out ++ [a], true, by omega, by go_num, rfl, HO10.out, HB10, HN⟩
          case measure => simp [intOf]; omega
      | false =>
        by_cases hna : n ≤ a
        · cases hne : (a != n) with
          | false =>
            have he : a = n := by simpa using hne
            have HOA11 := Lib.hid (HO.out.below (below_new wr (.cells #[.int .i64 n] 3)))
            have HBA11 := Lib.hid (HBW.out.alloc HBW.out.size (.cells #[.int .i64 n] 3))
            have HSZ11 := Lib.hid HBA11.out.size
            have HCC11 : Hid ((wr.alloc (.cells #[.int .i64 n] 3)).cell? ⟨wr.heap.size, 0, none⟩ = some (.int .i64 n)) := by unfold Hid; simp [go_sem]
            go_wp2_with (at_builtin; go_must (refine wpList_append_int rfl _ _ rfl w.heap.size _ (out) wr.heap.size n rfl rfl HOA11.out HSZ11.out HCC11.out (by first | omega | (simp; omega)) ?_))
            rintro v11 w11 ho11 hb11
            have HO11 := Lib.hid ho11
            have HB11 : Hid (Below w.heap.size w w11) := HBA11.out.trans hb11
            have c011 := HC.out _ HB11.out
            have hbw11 : b < w11.heap.size := Nat.lt_of_lt_of_le hb HB11.out.size
            obtain ⟨sA11, sc11, rfl⟩ := ho11.slice
            clear ho11 hb11
            have HN : Hid ((l.take (k + 1)).foldl (insStep n) ([], false) = (out ++ [n], true)) := by unfold Hid; rw [HTK.out]; simp [insStep, he]
            clear HTK
            go_wp2
            go_roundw
            case rel => exact ⟨k + 1, out ++ [n], true, by omega, by go_num, rfl, HO11.out, HB11, HN⟩
            case measure => simp [intOf]; omega
          | true =>
            have he : ¬ a = n := by simpa using hne
            have HOA12 := Lib.hid (HO.out.below (below_new wr (.cells #[.int .i64 n] 3)))
            have HBA12 := Lib.hid (HBW.out.alloc HBW.out.size (.cells #[.int .i64 n] 3))
            have HSZ12 := Lib.hid HBA12.out.size
            have HCC12 : Hid ((wr.alloc (.cells #[.int .i64 n] 3)).cell? ⟨wr.heap.size, 0, none⟩ = some (.int .i64 n)) := by unfold Hid; simp [go_sem]
            go_wp2_with (at_builtin; go_must (refine wpList_append_int rfl _ _ rfl w.heap.size _ (out) wr.heap.size n rfl rfl HOA12.out HSZ12.out HCC12.out (by first | omega | (simp; omega)) ?_))
            rintro v12 w12 ho12 hb12
            have HO12 := Lib.hid ho12
            have HB12 : Hid (Below w.heap.size w w12) := HBA12.out.trans hb12
            have c012 := HC.out _ HB12.out
            have hbw12 : b < w12.heap.size := Nat.lt_of_lt_of_le hb HB12.out.size
            obtain ⟨sA12, sc12, rfl⟩ := ho12.slice
            clear ho12 hb12
            have HOA13 := Lib.hid (HO12.out.below (below_new w12 (.cells #[.int .i64 a] 3)))
            have HBA13 := Lib.hid (HB12.out.alloc HB12.out.size (.cells #[.int .i64 a] 3))
            have HSZ13 := Lib.hid HBA13.out.size
            have HCC13 : Hid ((w12.alloc (.cells #[.int .i64 a] 3)).cell? ⟨w12.heap.size, 0, none⟩ = some (.int .i64 a)) := by unfold Hid; simp [go_sem]
            go_wp2_with (at_builtin; go_must (refine wpList_append_int rfl _ _ rfl w.heap.size _ (out ++ [n]) w12.heap.size a rfl rfl HOA13.out HSZ13.out HCC13.out (by first | omega | (simp; omega)) ?_))
            rintro v13 w13 ho13 hb13
            have HO13 := Lib.hid ho13
            have HB13 : Hid (Below w.heap.size w w13) := HBA13.out.trans hb13
            have c013 := HC.out _ HB13.out
            have hbw13 : b < w13.heap.size := Nat.lt_of_lt_of_le hb HB13.out.size
            obtain ⟨sA13, sc13, rfl⟩ := ho13.slice
            clear ho13 hb13
            have HN : Hid ((l.take (k + 1)).foldl (insStep n) ([], false) = (out ++ [n, a], true)) := by unfold Hid; rw [HTK.out]; simp [insStep, hna, he]
            clear HTK
            go_wp2
            go_roundw
            case rel => exact ⟨k + 1, out ++ [n, a], true, by omega, by go_num, rfl, HO13.out, HB13, HN⟩
            case measure => simp [intOf]; omega
        · cases hne : (a != n) with
          | false =>
            have he : a = n := by simpa using hne
            exact absurd (show n ≤ a by omega) hna
          | true =>
            have he : ¬ a = n := by simpa using hne
            have HOA14 := Lib.hid (HO.out.below (below_new wr (.cells #[.int .i64 a] 3)))
            have HBA14 := Lib.hid (HBW.out.alloc HBW.out.size (.cells #[.int .i64 a] 3))
            have HSZ14 := Lib.hid HBA14.out.size
            have HCC14 : Hid ((wr.alloc (.cells #[.int .i64 a] 3)).cell? ⟨wr.heap.size, 0, none⟩ = some (.int .i64 a)) := by unfold Hid; simp [go_sem]
            go_wp2_with (at_builtin; go_must (refine wpList_append_int rfl _ _ rfl w.heap.size _ (out) wr.heap.size a rfl rfl HOA14.out HSZ14.out HCC14.out (by first | omega | (simp; omega)) ?_))
            rintro v14 w14 ho14 hb14
            have HO14 := Lib.hid ho14
            have HB14 : Hid (Below w.heap.size w w14) := HBA14.out.trans hb14
            have c014 := HC.out _ HB14.out
            have hbw14 : b < w14.heap.size := Nat.lt_of_lt_of_le hb HB14.out.size
            obtain ⟨sA14, sc14, rfl⟩ := ho14.slice
            clear ho14 hb14
            have HN : Hid ((l.take (k + 1)).foldl (insStep n) ([], false) = (out ++ [a], false)) := by unfold Hid; rw [HTK.out]; simp [insStep, he, eq_false (show ¬ n ≤ a by omega)]
            clear HTK
            go_wp2
            go_roundw
            case rel => exact ⟨k + 1, out ++ [a], false, by omega, by go_num, rfl, HO14.out, HB14, HN⟩
            case measure => simp [intOf]; omega
    · have hkl : k = l.length := by omega
      subst hkl
      rw [List.take_length] at HF
      have hws : w.heap.size ≤ wr.heap.size := HBW.out.size
      have HE2 : Hid (insEnd n (out, put) = ans) := by unfold Hid; rw [← HF.out]; exact HE.out
      clear HF HE
      cases put with
      | true =>
        have HA : Hid (out = ans) := HE2.out
        go_wp2
        go_ret
        exact ⟨_, rfl, by rw [← HA.out]; exact HO.out, HBW.out⟩
      | false =>
        have HA : Hid (out ++ [n] = ans) := HE2.out
        have HOA := Lib.hid (HO.out.below (below_new wr (.cells #[.int .i64 n] 3)))
        have HBA := Lib.hid (HBW.out.alloc HBW.out.size (.cells #[.int .i64 n] 3))
        go_wp2_with (at_builtin; go_must (refine wpList_append_int rfl _ _ rfl w.heap.size _ out wr.heap.size n rfl rfl ?own3 ?n3 ?c3 ?l3 ?_))
        case own3 => exact HOA.out
        case n3 => simp; omega
        case c3 => simp [go_sem]
        case l3 => omega
        rintro v' w' ho' hb'
        have HO' := Lib.hid ho'
        have HB' := Lib.hid (HBA.out.trans hb')
        clear ho' hb'
        go_wp2
        go_ret
        exact ⟨_, rfl, by rw [← HA.out]; exact HO'.out, HB'.out⟩
end Go.Proofs.Ytecefhoinggmgaa
