/-
  The contracts of load and Open, of records that writeBatch wrote. No condition but on lengths.
-/
import Derived.Test.YtjanddnlhaionaaGreatDoorSK
import Derived.Test.YtjanddnlhaionaaGreatDoorSI
set_option maxRecDepth 100000
namespace Go.Proofs.YtjanddnlhaionaaGreatDoor
open Go.RowKit
open L3 (Tabs St)
open L4 (C LAt LIn LNF Wf okC encC putS putE Box)

/-- The map, and its length, with more encodings; none where two clash. -/
def loadS (K : List Int) (I : St) : MP → Nat → List ByteArray → Option (MP × Nat)
  | m, c, [] => some (m, c)
  | m, c, s :: l => if clash m (idB K I s) s then none else loadS K I (addMap m (idB K I s) s) (addCnt m c (idB K I s)) l
theorem loadS_append (K : List Int) (I : St) : ∀ (l l' : List ByteArray) (m : MP) (c : Nat), loadS K I m c (l ++ l') = (loadS K I m c l).bind fun x => loadS K I x.1 x.2 l'
  | [], l', m, c => rfl
  | s :: l, l', m, c => by
    rw [List.cons_append, loadS, loadS]
    split
    · rfl
    · exact loadS_append K I l l' _ _
theorem addCnt_le (m : MP) (c : Nat) (id : ByteArray) : addCnt m c id ≤ c + 1 := by unfold addCnt; split <;> omega
theorem loadS_cnt (K : List Int) (I : St) : ∀ (l : List ByteArray) (m : MP) (c : Nat) (x : MP × Nat), loadS K I m c l = some x → x.2 ≤ c + l.length
  | [], m, c, x, h => by injection h with h; rw [← h]; exact Nat.le_refl _
  | s :: l, m, c, x, h => by
    rw [loadS] at h
    split at h
    · cases h
    · have := loadS_cnt K I l _ _ x h
      have := addCnt_le m c (idB K I s)
      simp only [List.length_cons]
      omega
/-- The first encodings are loaded if all are. -/
theorem loadS_take (K : List Int) (I : St) (l : List ByteArray) (m : MP) (c : Nat) (x : MP × Nat) (h : loadS K I m c l = some x) (k : Nat) : ∃ y, loadS K I m c (l.take k) = some y := by
  rw [← List.take_append_drop k l, loadS_append] at h
  cases hq : loadS K I m c (l.take k) with
  | none => rw [hq] at h; cases h
  | some y => exact ⟨y, rfl⟩
theorem loadS_next (K : List Int) (I : St) (l : List ByteArray) (m : MP) (c : Nat) (x y : MP × Nat) (h : loadS K I m c l = some x) (k : Nat) (hk : k < l.length) (hy : loadS K I m c (l.take k) = some y) :
    clash y.1 (idB K I l[k]) l[k] = false ∧ loadS K I m c (l.take (k + 1)) = some (addMap y.1 (idB K I l[k]) l[k], addCnt y.1 y.2 (idB K I l[k])) := by
  obtain ⟨z, hz⟩ := loadS_take K I l m c x h (k + 1)
  rw [List.take_succ_eq_append_getElem hk, loadS_append, hy] at hz ⊢
  simp only [Option.bind_some, loadS] at hz ⊢
  cases hc : clash y.1 (idB K I l[k]) l[k] with
  | true => rw [hc] at hz; simp at hz
  | false => simp

/-- What an encoding on the log must be. -/
def EncOk (s : ByteArray) : Prop := s.size ≤ 900000 ∧ (takeOM s).2 = 0

theorem results75 (tmps : Array Value) (w : World) (P : Nat) (k n : Int) (sv : ByteArray) (A : Option Addr) (l cap : Nat) (hp2 : tmps[4]?.getD undef = .pointer (some ⟨P, 0, none⟩))
    (h0 : w.heap[P]? = some (.cells #[.int .i64 k, .int .i64 n, .string sv, .slice A l cap] 38 (0, 0))) :
    (results Tryz.f75 tmps).run Tryz.prog w = .ok (.tuple #[.agg #[.int .i64 k, .int .i64 n, .string sv, .slice A l cap], tmps[5]?.getD undef]) w := by
  have p0 : w.cell? ⟨P, 0, none⟩ = some (.int .i64 k) := cell_of_row w P 0 _ 38 (0, 0) h0
  have p1 : w.cell? ⟨P, 1, none⟩ = some (.int .i64 n) := cell_of_row w P 1 _ 38 (0, 0) h0
  have p2 : w.cell? ⟨P, 2, none⟩ = some (.string sv) := cell_of_row w P 2 _ 38 (0, 0) h0
  have p3 : w.cell? ⟨P, 3, none⟩ = some (.slice A l cap) := cell_of_row w P 3 _ 38 (0, 0) h0
  simp [results, Tryz.results75, hp2, asAddr, go_sem, p0, p1, p2, p3]

set_option maxHeartbeats 4000000 in
theorem load75 {w0 w : World} {sb mb bt bl b : Nat} {fv : Value} {d : L6.D} {st : Sf} (K : List Int) (I : St) (h : SfAt w0 w sb mb fv bt bl b d st) (hT : Tabs K I w0) (ck cn : Int) (cs : ByteArray) (cl : List C) (l : List ByteArray)
    (hb : BatOk (.mk ck cn cs cl) l) (hs : (putS (batC (.mk ck cn cs cl) l)).size ≤ 1000000000) (he : ∀ s ∈ l, EncOk s) (x : MP × Nat) (hl : loadS K I st.m st.c l = some x) (hc : st.c + l.length ≤ 1000000) :
    Calls Tryz.prog 75 #[.pointer (some ⟨sb, 0, none⟩), .string (putS (batC (.mk ck cn cs cl) l))] w fun e w' => ∃ A n cap, e = .returned (.tuple #[.agg #[.int .i64 ck, .int .i64 cn, .string cs, .slice A n cap], .int .i64 0]) ∧ LIn w' (fun b => w.heap.size ≤ b ∧ L4.T38 w' b) 16 (.slice A n cap) cl ∧
      SfAt w0 w' sb mb fv bt bl b d { st with m := x.1, c := x.2 } ∧ L6.Turn (fun k => k = mb) w w' := by
  have hB : Below w.heap.size w (w.alloc (.cells #[.int .i64 0, .int .i64 0, .string ⟨#[]⟩, .slice none 0 0] 38)) := (Below.refl _ _).alloc (Nat.le_refl _) _
  have HRB := Lib.hid (readBatch129 ck cn cs cl l (w.alloc (.cells #[.int .i64 0, .int .i64 0, .string ⟨#[]⟩, .slice none 0 0] 38)) hb hs)
  have H1 := Lib.hid (h.below hB)
  have HB := Lib.hid hB
  have HP0 := Lib.hid (heap_alloc_new w (.cells #[.int .i64 0, .int .i64 0, .string ⟨#[]⟩, .slice none 0 0] 38))
  have HE := Lib.hid he
  have HLD := Lib.hid hl
  have HT0 := Lib.hid hT
  have HMB := Lib.hid h.map.lt
  have HCN := Lib.hid hc
  have HOL := Lib.hid h.old.size
  have HMN : Hid (∀ k, Mine sb mb fv k → k < w.heap.size) := fun k hk => by obtain ⟨-, o, ho, -⟩ := h.mine k hk; exact (Array.getElem?_eq_some_iff.1 ho).1
  have HLE := Lib.hid hb.len
  generalize putS (batC (.mk ck cn cs cl) l) = R at HRB ⊢
  clear h hT hb hs he hl hc hB
  go_enter Tryz.func75, Tryz.ntmps75
  go_wp2_with fail
  refine HRB.out.mono ?_
  rintro _ w2 ⟨A, n, cap, v, rfl, hli, hro, hb2⟩
  obtain ⟨vA, vc, rfl⟩ := L6.row_slice hro
  obtain ⟨W3, hW3⟩ : ∃ W3, w2.alloc (.cells #[.int .i64 ck, .int .i64 cn, .string cs, .slice A n cap] 38) = W3 := ⟨_, rfl⟩
  have hb3 : Below w2.heap.size w2 W3 := by rw [← hW3]; exact (Below.refl _ _).alloc (Nat.le_refl _) _
  have HX3 : Hid (w2.alloc (.cells #[.int .i64 ck, .int .i64 cn, .string cs, .slice A n cap] 38) = W3) := hW3
  have HP3 : Hid (W3.heap[w2.heap.size]? = some (.cells #[.int .i64 ck, .int .i64 cn, .string cs, .slice A n cap] 38 (0, 0))) := by rw [← hW3]; exact heap_alloc_new _ _
  have HSZ1 : Hid (w.heap.size < w2.heap.size) := by have := hb2.size; simp at this; unfold Hid; omega
  have H3 := Lib.hid ((H1.out.below hb2).below hb3)
  have HZ3 := Lib.hid ((hb3.block _ HSZ1.out).trans ((hb2.block w.heap.size (by simp)).trans HP0.out))
  have HLI3 : Hid (LIn W3 (fun b => w.heap.size + 1 ≤ b ∧ L4.T38 W3 b) 16 (.slice A n cap) cl) := by
    refine hli.keep (fun b hb => ⟨by have := hb.1; simp at this; exact this, hb.2.keep (hb3.block b hb.2.lt)⟩) fun b o hb => L4.cell_same (hb3.block b hb.2.lt) o
  have HRO : Hid (W3.ownsRow (w.heap.size + 1) 9 1 (.slice vA l.length vc) l.length (L6.strs l)) := by
    have h1 : w2.ownsRow (w.heap.size + 1) 9 1 (.slice vA l.length vc) l.length (L6.strs l) := by have := hro; simp only [World.size_alloc] at this; exact this
    exact L6.row_keep h1 (fun j hj => hb3.block j (L6.row_lt h1 hj))
  have HB3 : Hid (Below w.heap.size w W3) := (HB.out.trans (hb2.mono HB.out.size)).trans (hb3.mono (Nat.le_of_lt HSZ1.out))
  have hp3 : w2.heap.size < W3.heap.size := by rw [← hW3]; simp
  have HPL := Lib.hid hp3
  clear hW3 hb3 hli hro hb2 H1 HB HP0 HRB hp3
  obtain ⟨m, hm⟩ : ∃ m, l.length = m := ⟨_, rfl⟩
  have HM := Lib.hid hm
  rw [hm] at HRO HLE HCN ⊢
  clear hm
  go_wp2_with fail
  go_loopw [27] (fun s27 wr => ∃ (k : Nat) (y : MP × Nat), k ≤ m ∧ s27 = .int .i64 k ∧ Hid (loadS K I st.m st.c (l.take k) = some y) ∧ Hid (SfAt w0 wr sb mb fv bt bl b d { st with m := y.1, c := y.2 }) ∧ Hid (L6.Turn (fun j => j = mb) W3 wr)) (fun s27 _ => m - (intOf s27).toNat)
  case atStart => exact ⟨0, (st.m, st.c), Nat.zero_le _, rfl, by rw [List.take_zero]; rfl, by rw [HX3.out]; exact H3.out, by rw [HX3.out]; exact L6.Turn.refl _ _⟩
  case round =>
    obtain ⟨k, y, hk, rfl, HY, HR, HTR⟩ := hrel
    have hm4 : m ≤ 4095 := HLE.out
    by_cases hlt : k < m
    · have hkl : k < l.length := by rw [HM.out]; exact hlt
      obtain ⟨g, vc', hg⟩ := L6.row_some HRO.out (by omega)
      simp only [Value.slice.injEq] at hg
      obtain ⟨rfl, -, -⟩ := hg
      have hgl := L6.row_lt HRO.out rfl
      have hgm : g ≠ mb := by
        have h7 : w.heap.size + 1 ≤ g := L6.row_ge HRO.out rfl
        have := HMB.out
        omega
      have hck : wr.cell? ⟨g, k, none⟩ = some (.string l[k]) := by
        rw [L4.cell_same (HTR.out.block g hgl hgm) k, HRO.out.cellAt k (by omega)]
        unfold L6.strs
        rw [List.getElem?_map, List.getElem?_eq_getElem hkl]
        rfl
      have hek := HE.out l[k] (List.getElem_mem hkl)
      have hnx := loadS_next K I l st.m st.c x y HLD.out k hkl HY.out
      have hcn := loadS_cnt K I (l.take k) st.m st.c y HY.out
      generalize l[k] = s at hck hek hnx
      obtain ⟨hcl, hnx⟩ := hnx
      have HNX := Lib.hid hnx
      obtain ⟨⟨o, er⟩, hto⟩ : ∃ q, takeOM s = q := ⟨_, rfl⟩
      have he0 : er = 0 := by have := hek.2; rw [hto] at this; exact this
      subst he0
      have HTK := Lib.hid (take8 s wr (by have := hek.1; omega))
      rw [hto] at HTK
      have HAD := Lib.hid fun w5 (hb5 : Below wr.heap.size wr w5) => add83 K I (HR.out.below hb5) (HT0.out.below (HR.out.below hb5).old HT0.out.two) s hek.1 (idB_size K I s) (by show y.2 < maxLen; have := HCN.out; have := List.length_take_le k l; rw [HM.out] at *; unfold maxLen; omega)
      simp only [hcl, Bool.false_eq_true, if_false] at HAD
      have HLT : Hid (k < m) := hlt
      clear hnx hcl hek hto hkl HY hcn hgl hgm HR
      go_wp2_with fail
      refine HTK.out.mono ?_
      rintro _ w4 ⟨hb4, A1, n1, k1, A2, n2, k2, A3, n3, k3, rfl, -⟩
      have hb5 : Below wr.heap.size wr (w4.alloc (.cells #[.int .i64 o.k, .string o.label, .slice A1 n1 k1, .slice A2 n2 k2, .slice A3 n3 k3, .int .i64 o.stamp, .string o.note, .string o.root] 27)) := hb4.alloc hb4.size _
      have HAD5 := Lib.hid (HAD.out _ hb5)
      have HTR5 : Hid (L6.Turn (fun j => j = mb) W3 (w4.alloc (.cells #[.int .i64 o.k, .string o.label, .slice A1 n1 k1, .slice A2 n2 k2, .slice A3 n3 k3, .int .i64 o.stamp, .string o.note, .string o.root] 27))) := HTR.out.trans ⟨hb5.os, hb5.tape, hb5.output, hb5.size, fun j hj _ => hb5.block j hj⟩ (fun i hi => .inl hi)
      clear hb4 hb5 HAD HTK HTR
      go_wp2_with fail
      refine HAD5.out.mono ?_
      rintro _ w6 ⟨rfl, h6, ht6⟩
      have H6 := Lib.hid h6
      have HTR6 : Hid (L6.Turn (fun j => j = mb) W3 w6) := HTR5.out.trans ht6 (fun i hi => .inl hi)
      clear h6 ht6 HAD5 HTR5
      go_wp2_with fail
      go_roundw
      case rel => exact ⟨k + 1, (addMap y.1 (idB K I s) s, addCnt y.1 y.2 (idB K I s)), HLT.out, by go_num, HNX, H6, HTR6⟩
      case measure => have := HLT.out; simp [intOf]; omega
    · have hkn : k = m := by omega
      subst hkn
      have hyx : y = x := by
        have h1 := HY.out
        rw [← HM.out, List.take_length, HLD.out] at h1
        injection h1 with h1
        exact h1.symm
      subst hyx
      have hne1 : w.heap.size ≠ mb := by have := HMB.out; omega
      have hne2 : w2.heap.size ≠ mb := by have := HMB.out; have := HSZ1.out; omega
      have hsz : w.heap.size < W3.heap.size := by have := HSZ1.out; have := HPL.out; omega
      have hq3 := (HTR.out.block _ HPL.out hne2).trans HP3.out
      have f0 : wr.cell? ⟨w2.heap.size, 0, none⟩ = some (.int .i64 ck) := L6.cell_row hq3 rfl
      have f1 : wr.cell? ⟨w2.heap.size, 1, none⟩ = some (.int .i64 cn) := L6.cell_row hq3 rfl
      have f2 : wr.cell? ⟨w2.heap.size, 2, none⟩ = some (.string cs) := L6.cell_row hq3 rfl
      have f3 : wr.cell? ⟨w2.heap.size, 3, none⟩ = some (.slice A n cap) := L6.cell_row hq3 rfl
      have HPR := Lib.hid ((HTR.out.block _ hsz hne1).trans HZ3.out)
      have HSS := Lib.hid (L4.size_four ck cn cs A n cap)
      have HALL := Lib.hid (L4.all_one ck cn cs A n cap)
      have HFIN : Hid (LIn (wr.setRow w.heap.size #[.int .i64 ck, .int .i64 cn, .string cs, .slice A n cap]) (fun b => w.heap.size ≤ b ∧ L4.T38 (wr.setRow w.heap.size #[.int .i64 ck, .int .i64 cn, .string cs, .slice A n cap]) b) 16 (.slice A n cap) cl ∧
          SfAt w0 (wr.setRow w.heap.size #[.int .i64 ck, .int .i64 cn, .string cs, .slice A n cap]) sb mb fv bt bl b d { st with m := y.1, c := y.2 } ∧ L6.Turn (fun k => k = mb) w (wr.setRow w.heap.size #[.int .i64 ck, .int .i64 cn, .string cs, .slice A n cap])) := by
        have hT1 : L6.Turn (fun k => k = mb) w wr := L6.Turn.trans (F := fun k => k = mb) ⟨HB3.out.os, HB3.out.tape, HB3.out.output, HB3.out.size, fun k hk _ => HB3.out.block k hk⟩ HTR.out (fun i hi => .inl hi)
        refine ⟨HLI3.out.keep (fun b hb => ⟨by have := hb.1; omega, hb.2.keep ((setRow_other _ _ _ _ (by have := hb.1; omega)).trans (HTR.out.block b hb.2.lt (by have := hb.1; have := HMB.out; omega)))⟩) fun b o hb => L4.cell_same ((setRow_other _ _ _ _ (by have := hb.1; omega)).trans (HTR.out.block b hb.2.lt (by have := hb.1; have := HMB.out; omega))) o, ?_, ⟨hT1.os, hT1.tape, hT1.output, by rw [setRow_size]; exact hT1.size, fun k hk hn => by rw [setRow_other _ _ _ _ (by omega)]; exact hT1.block k hk hn⟩⟩
        refine HR.out.other (G := fun j => j = w.heap.size) ⟨rfl, rfl, rfl, by rw [setRow_size]; exact Nat.le_refl _, fun k _ hn => setRow_other _ _ _ _ hn⟩ (fun j hj => ?_)
        subst hj
        exact ⟨⟨HOL.out, _, HPR.out, alien_cells _ 38 (by decide)⟩, fun hm => by have := HMN.out _ hm; omega⟩
      clear hq3 HTR HR HY HLI3 HRO HZ3 HP3
      go_wp2_with (refine wpList_store_row (P := Tryz.prog) rfl 38 _ _ rfl w.heap.size #[.int .i64 ck, .int .i64 cn, .string cs, .slice A n cap] rfl rfl 38 _ HPR.out HSS.out rfl HALL.out ?_)
      refine bodyPost_ret (results75 _ _ w.heap.size ck cn cs A n cap ?hp2 (setRow_heap _ w.heap.size _ _ 38 (0, 0) HPR.out)) rfl ?_
      case hp2 => rfl
      exact ⟨_, _, _, rfl, HFIN.out.1, HFIN.out.2.1, HFIN.out.2.2⟩
end Go.Proofs.YtjanddnlhaionaaGreatDoor
