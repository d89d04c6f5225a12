/-
  The contracts of remove and Drop. No condition but on lengths.
-/
import Derived.Test.YtjanddnlhaionaaGreatDoorSH
set_option maxRecDepth 100000
namespace Go.Proofs.YtjanddnlhaionaaGreatDoor
open Go.RowKit

/-- The map, and its length, without some keys. -/
def remS (m : MP) (c : Nat) : List ByteArray → MP × Nat
  | [] => (m, c)
  | id :: l => remS (era m id) (if (m id).isSome then c - 1 else c) l
theorem remS_snoc : ∀ (l : List ByteArray) (m : MP) (c : Nat) (id : ByteArray), remS m c (l ++ [id]) = (era (remS m c l).1 id, if ((remS m c l).1 id).isSome then (remS m c l).2 - 1 else (remS m c l).2)
  | [], m, c, id => rfl
  | x :: l, m, c, id => by rw [List.cons_append, remS, remS_snoc l, remS]
def remSt (st : Sf) : Sf := { st with m := (remS st.m st.c st.fresh).1, c := (remS st.m st.c st.fresh).2, fresh := [] }

theorem wpList_delete_m {w : World} {ops : Array Oper} {rest : List Oper} {o : Oper} {a : Act} {Q : Exit → Act → World → Prop} (hg : o.guard = none) (m x : Operand) (hop : o.op = Op.call { callee := Callee.builtin Builtin.delete, args := #[m, x], argTypes := #[85, 9] })
    (b c : Nat) (mm : MP) (s : ByteArray) (hm : a.eval m = .map (some b)) (h : MAt Tryz.prog 9 w b mm c) (hx : a.eval x = .string s) (hk : s.size ≤ maxLen)
    (hK : ∀ w', MAt Tryz.prog 9 w' b (era mm s) (if (mm s).isSome then c - 1 else c) → w.mapTurned w' b → wpList Tryz.prog ops Q rest (a.put o.dst (.tuple #[])) w') :
    wpList Tryz.prog ops Q (o :: rest) a w := by
  refine wpList_plain hg fun K' hK' => ?_
  obtain ⟨w', hrun, r1, r2⟩ := h.drop85 s hk o.type
  unfold Oper.wp
  simp [execOp, hop, resolve, invoke, builtin, hm, hx, hrun, Result.andThen]
  exact hK' _ _ (hK w' r1 r2)

set_option maxHeartbeats 2000000 in
theorem remove79 {w0 w : World} {sb mb bt bl b : Nat} {fv : Value} {d : L6.D} {st : Sf} (h : SfAt w0 w sb mb fv bt bl b d st) (hids : ∀ id ∈ st.fresh, id.size ≤ maxLen) (hn : st.fresh.length ≤ 1000000) :
    Calls Tryz.prog 79 #[.pointer (some ⟨sb, 0, none⟩)] w fun e w' => e = .returned (.int .i64 (st.fresh.length : Int)) ∧ SfAt w0 w' sb mb (.slice none 0 0) bt bl b d (remSt st) ∧ L6.Turn (Mine sb mb fv) w w' := by
  obtain ⟨A, cap, rfl⟩ := L6.row_slice h.fr
  obtain ⟨-, c1, c2, -⟩ := h.cells
  have HH := Lib.hid h
  have HI := Lib.hid hids
  obtain ⟨n, hnn⟩ : ∃ n, st.fresh.length = n := ⟨_, rfl⟩
  have HN := Lib.hid hnn
  rw [hnn] at hn c2 ⊢
  have HH0 : Hid (SfAt w0 w sb mb (.slice A n cap) bt bl b d { st with m := (remS st.m st.c (st.fresh.take 0)).1, c := (remS st.m st.c (st.fresh.take 0)).2 } ∧ L6.Turn (Mine sb mb (.slice A n cap)) w w) := ⟨by rw [List.take_zero]; rw [← hnn]; exact h, L6.Turn.refl _ _⟩
  clear h hids hnn
  go_enter Tryz.func79, Tryz.ntmps79
  go_wp2_with fail
  go_loopw [16] (fun s16 wr => ∃ k : Nat, k ≤ n ∧ s16 = .int .i64 k ∧ Hid (SfAt w0 wr sb mb (.slice A n cap) bt bl b d { st with m := (remS st.m st.c (st.fresh.take k)).1, c := (remS st.m st.c (st.fresh.take k)).2 } ∧ L6.Turn (Mine sb mb (.slice A n cap)) w wr)) (fun s16 _ => n - (intOf s16).toNat)
  case atStart => exact ⟨0, Nat.zero_le _, rfl, HH0⟩
  case round =>
    obtain ⟨k, hk, rfl, HR⟩ := hrel
    clear HH0 c1 c2
    obtain ⟨r0, r1, r2, rf⟩ := HR.out.1.cells
    by_cases hlt : k < n
    · have hkl : k < st.fresh.length := by rw [HN.out]; exact hlt
      obtain ⟨g, cap', hg⟩ := L6.row_some HR.out.1.fr (by show 0 < st.fresh.length; omega)
      simp only [Value.slice.injEq] at hg
      obtain ⟨rfl, -, -⟩ := hg
      have hck : wr.cell? ⟨g, k, none⟩ = some (.string st.fresh[k]) := by
        have := HR.out.1.fr
        simp only [HN.out] at this
        rw [this.cellAt k (by omega)]
        unfold L6.strs
        rw [List.getElem?_map, List.getElem?_eq_getElem hkl]
        rfl
      have hid := HI.out st.fresh[k] (List.getElem_mem hkl)
      have HTK : Hid (st.fresh.take (k + 1) = st.fresh.take k ++ [st.fresh[k]]) := List.take_succ_eq_append_getElem hkl
      generalize st.fresh[k] = id at hck hid HTK
      have HMP := Lib.hid HR.out.1.map
      have hlt2 := hlt
      clear hkl r2 rf r0
      go_wp2_with (at_delete; refine wpList_delete_m rfl _ _ rfl mb _ _ id rfl HMP.out rfl hid ?_; intro w2 hm2 ht2; have HF := Lib.hid (HR.out.1.mapped hm2 ht2); clear hm2 ht2)
      have HX : Hid (SfAt w0 w2 sb mb (.slice (some ⟨g, 0, none⟩) n cap) bt bl b d { st with m := (remS st.m st.c (st.fresh.take (k + 1))).1, c := (remS st.m st.c (st.fresh.take (k + 1))).2 } ∧ L6.Turn (Mine sb mb (.slice (some ⟨g, 0, none⟩) n cap)) w w2) := by
        rw [HTK.out, remS_snoc]
        exact ⟨HF.out.1, HR.out.2.trans HF.out.2 (fun i hi => .inl (.inr (.inl hi)))⟩
      clear HF HR HMP HTK
      go_roundw
      case rel => exact ⟨k + 1, by omega, by go_num, HX⟩
      case measure => simp [intOf]; omega
    · have hkn : k = n := by omega
      subst hkn
      have rf2 := rf 2
      have HX : Hid (SfAt w0 (wr.setCell ⟨sb, 2, none⟩ (.slice none 0 0)) sb mb (.slice none 0 0) bt bl b d (remSt st) ∧ L6.Turn (Mine sb mb (.slice A k cap)) w (wr.setCell ⟨sb, 2, none⟩ (.slice none 0 0))) := by
        have h1 := HR.out.1.cleared
        refine ⟨?_, HR.out.2.trans h1.2 (fun i hi => .inl hi)⟩
        have h2 := h1.1
        rw [← HN.out, List.take_length] at h2
        exact h2
      clear HR rf r0 r1
      go_wp2_with fail
      go_ret
      exact ⟨rfl, HX.out.1, HX.out.2⟩

theorem drop35 {w0 w : World} {sb mb bt bl b : Nat} {fv : Value} {d : L6.D} {st : Sf} (h : SfAt w0 w sb mb fv bt bl b d st) (hids : ∀ id ∈ st.fresh, id.size ≤ maxLen) (hn : st.fresh.length ≤ 1000000) :
    Calls Tryz.prog 35 #[.pointer (some ⟨sb, 0, none⟩)] w fun e w' => e = .returned (.int .i64 (st.fresh.length : Int)) ∧ SfAt w0 w' sb mb (.slice none 0 0) bt bl b d (remSt st) ∧ L6.Turn (Mine sb mb fv) w w' := by
  have HE := Lib.hid (exists76 h)
  have HR := Lib.hid (remove79 h hids hn)
  clear h hids hn
  generalize st.fresh.length = n at *
  go_enter Tryz.func35, Tryz.ntmps35
  go_wp2_with (first | (go_at_call 76; refine HE.out.mono ?_; rintro e w' ⟨rfl, rfl⟩) | (go_at_call 79; refine HR.out.mono ?_; rintro e w' ⟨rfl, h1, h2⟩; have H1 := Lib.hid h1; have H2 := Lib.hid h2; clear h1 h2))
  go_ret
  exact ⟨rfl, H1.out, H2.out⟩
end Go.Proofs.YtjanddnlhaionaaGreatDoor
