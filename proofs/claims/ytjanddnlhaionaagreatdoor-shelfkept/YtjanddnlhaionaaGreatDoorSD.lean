/-
  The contract of writeBatch. No condition but on lengths.
-/
import Derived.Test.YtjanddnlhaionaaGreatDoorSC
import Derived.Test.YtjanddnlhaionaaGreatDoorOx3
import Derived.Test.YtjanddnlhaionaaGreatDoorL6x2
set_option maxRecDepth 100000
namespace Go.Proofs.YtjanddnlhaionaaGreatDoor
open Go.RowKit
open L4 (C LAt LIn LNF Unf Wf rcells rowC okC encC putS putE Box)

/-- The record's cell. -/
def batC (c : C) (l : List ByteArray) : C := listC [c, listC (l.map textC)]

theorem made_flat {α : Type} (f : α → List Value) (x0 : α) (m : Nat) (h0 : 0 < m) (hm : (f x0).length = m) (z : Value) (hz : z.cells = (f x0).toArray) (n : Nat) : (madeCells z.cells (n * m)).toList = (List.replicate n x0).flatMap f := by
  have hall : ∀ x ∈ List.replicate n x0, (f x).length = m := fun x hx => by rw [List.eq_of_mem_replicate hx, hm]
  apply List.ext_getElem?
  intro i
  by_cases hi : i < n * m
  · have hk : i / m < n := (Nat.div_lt_iff_lt_mul h0).2 hi
    have hj : i % m < m := Nat.mod_lt _ h0
    have hd : i = i / m * m + i % m := by rw [Nat.mul_comm]; exact (Nat.div_add_mod i m).symm
    have h2 := L6.fm_get f m (List.replicate n x0) hall (i / m) x0 (by rw [List.getElem?_replicate]; simp [hk]) (i % m) hj
    rw [← hd] at h2
    rw [h2]
    unfold madeCells
    rw [hz]
    simp only [Array.toList_map, Array.toList_range, List.getElem?_map, List.getElem?_range hi, Option.map_some, List.size_toArray, hm]
    rw [List.getElem?_eq_getElem (by rw [hm]; exact hj)]
    congr 1
    rw [getElem!_pos (f x0).toArray (i % m) (by simpa [hm] using hj)]
    simp
  · rw [List.getElem?_eq_none (by simp [madeCells]; omega), List.getElem?_eq_none (by rw [L6.fm_len f m _ hall]; simp; omega)]

theorem wpList_store_by {P : Program} {ops : Array Oper} {rest : List Oper} {o : Oper} {a : Act} {w w' : World} {Q : Exit → Act → World → Prop} (hg : o.guard = none) (ty : TypeId) (x y : Operand) (ho : o.op = .store ty x y) (p v : Value) (hx : a.eval x = p) (hy : a.eval y = v)
    (hrun : (Instr.storeAt ty p v).run P w = .ok () w') (hK : wpList P ops Q rest (a.put o.dst undef) w') : wpList P ops Q (o :: rest) a w :=
  wpList_plain hg fun K' hK' => by
    unfold Oper.wp
    simp [execOp, ho, hx, hy, hrun]
    exact hK' _ _ hK

/-! ### A row of flat cells -/
def fC (c : C) : List Value := rowC (c, .slice none 0 0)
theorem fC_len (c : C) : (fC c).length = 4 := rfl
theorem fC_one (c : C) : ∀ u ∈ fC c, u.oneCell' = true := by
  intro u hu
  unfold fC rowC at hu
  simp only [List.mem_cons, List.not_mem_nil, or_false] at hu
  rcases hu with rfl | rfl | rfl | rfl <;> rfl
/-- The texts so far, and zero cells. -/
def tcsC (l : List ByteArray) (k : Nat) : List C := (l.take k).map textC ++ List.replicate (l.length - k) L4.zeroC
theorem tcsC_len (l : List ByteArray) (k : Nat) (h : k ≤ l.length) : (tcsC l k).length = l.length := by
  unfold tcsC
  rw [List.length_append, List.length_map, List.length_take, List.length_replicate]
  omega
theorem tcsC_set (l : List ByteArray) (k : Nat) (h : k < l.length) : (tcsC l k).set k (textC l[k]) = tcsC l (k + 1) := by
  unfold tcsC
  have e1 : ((l.take k).map textC).length = k := by rw [List.length_map, List.length_take]; omega
  rw [List.set_append_right _ _ (by omega), e1, Nat.sub_self, show l.length - k = (l.length - (k + 1)) + 1 by omega, List.replicate_succ, List.set_cons_zero, List.take_succ_eq_append_getElem h, List.map_append, List.append_assoc]
  rfl
theorem tcsC_end (l : List ByteArray) : tcsC l l.length = l.map textC := by
  unfold tcsC
  rw [List.take_length, Nat.sub_self, List.replicate_zero, List.append_nil]
theorem flat_lnf {w : World} {lo g n c : Nat} {D : List C} (h : w.ownsRow lo 38 4 (.slice (some ⟨g, 0, none⟩) n c) n (D.flatMap fC)) (hn : n = D.length) (hD : ∀ x ∈ D, Wf x ∧ x.l = []) : LNF lo w w.heap.size 2 (.slice (some ⟨g, 0, none⟩) n c) D := by
  subst hn
  have hlt := L6.row_lt h rfl
  rcases h.2 with ⟨h', _⟩ | ⟨g', cap', cur, h', hb, hg, hnc, hcm, hcs, htake⟩
  · simp at h'
  · simp only [Value.slice.injEq, Option.some.injEq, Addr.mk.injEq, and_true, true_and] at h'
    obtain ⟨rfl, rfl⟩ := h'
    refine ⟨_, _, rfl, hnc, hcm, fun _ => ⟨g, 0, rfl, hlt, fun i hi => ?_⟩⟩
    have hr := L6.row_range h (fun x _ => fC_len x) rfl i D[i] (List.getElem?_eq_getElem hi)
    obtain ⟨hw, hl⟩ := hD D[i] (List.getElem_mem hi)
    refine ⟨.slice none 0 0, ⟨?_, ?_, ?_, ?_⟩, hw, ⟨hb, fun _ => ⟨_, _, hg⟩⟩, by simp [World.frozen?, hg], by rw [hl]; exact lnf_nil _ _ _ 0⟩
    · have := hr 0 _ rfl; rw [Nat.zero_add]; exact this
    · have := hr 1 _ rfl; rw [Nat.zero_add]; exact this
    · have := hr 2 _ rfl; rw [Nat.zero_add]; exact this
    · have := hr 3 _ rfl; rw [Nat.zero_add]; exact this
theorem cnt_texts (l : List ByteArray) : L4.cntL (l.map textC) = l.length := by rw [cntL_const textC 1 cnt_text, Nat.one_mul]
theorem pair_built (c : C) (u : Value) (l2 : List C) (W : World) (lo : Nat) (A2 : Option Addr) (n2 c2 D1 D2 : Nat) (hlo : lo ≤ W.heap.size) (hw : Wf c) (hc : LNF lo W W.heap.size D1 u c.l) (hk : LNF lo W W.heap.size D2 (.slice A2 n2 c2) l2) :
    LNF lo (W.alloc (.cells #[.int .i64 c.k, .int .i64 c.n, .string c.s, u, .int .i64 3, .int .i64 0, .string ⟨#[]⟩, .slice A2 n2 c2] 38)) (W.alloc (.cells #[.int .i64 c.k, .int .i64 c.n, .string c.s, u, .int .i64 3, .int .i64 0, .string ⟨#[]⟩, .slice A2 n2 c2] 38)).heap.size (D1 + D2 + 1) (.slice (some ⟨W.heap.size, 0, none⟩) 2 2) [c, listC l2] :=
  lnf_built hlo [(c, u), (listC l2, .slice A2 n2 c2)] (D1 + D2) (fun x hx => by
    simp only [List.mem_cons, List.not_mem_nil, or_false] at hx
    rcases hx with rfl | rfl
    · exact ⟨hw, lnf_up hc (by omega)⟩
    · exact ⟨wf_list _, lnf_up hk (by omega)⟩) (by simp)

theorem LNFrow {w : World} {B e m : Nat} {v : Value} {n : Nat} {xs : List Value} (h : w.ownsRow B e m v n xs) : w.ownsRow 0 e m v n xs := by
  rcases h with ⟨h1, h2 | ⟨g, cap, cur, a, b, c⟩⟩
  · exact ⟨h1, .inl h2⟩
  · exact ⟨h1, .inr ⟨g, cap, cur, a, Nat.zero_le _, c⟩⟩
theorem boxF {lo : Nat} {w W : World} {ck cn : Int} {cs : ByteArray} {cl : List C} {u v : Value} {L : List C} {d : Nat} (h : Box w (.mk ck cn cs cl) u W) (hl : LNF lo W W.heap.size d v L) :
    W.cell? ⟨w.heap.size, 0, none⟩ = some (.int .i64 ck) ∧ W.cell? ⟨w.heap.size, 1, none⟩ = some (.int .i64 cn) ∧ W.cell? ⟨w.heap.size, 2, none⟩ = some (.string cs) ∧ W.cell? ⟨w.heap.size, 3, none⟩ = some u ∧ Box w (.mk ck cn cs cl) u W ∧ LNF lo W W.heap.size d v L :=
  ⟨h.cell 0, h.cell 1, h.cell 2, h.cell 3, h, hl⟩
theorem boxS {lo : Nat} {w W W' : World} {ck cn : Int} {cs : ByteArray} {cl : List C} {u v : Value} {L : List C} {d : Nat} (h : Box w (.mk ck cn cs cl) u W) (hl : LNF lo W W.heap.size d v L) (hb : Below W.heap.size W W') :
    W'.cell? ⟨w.heap.size, 0, none⟩ = some (.int .i64 ck) ∧ W'.cell? ⟨w.heap.size, 1, none⟩ = some (.int .i64 cn) ∧ W'.cell? ⟨w.heap.size, 2, none⟩ = some (.string cs) ∧ W'.cell? ⟨w.heap.size, 3, none⟩ = some u ∧ Box w (.mk ck cn cs cl) u W' ∧ LNF lo W' W'.heap.size d v L :=
  boxF (h.step hb) (lnf_step hl hb)

set_option maxHeartbeats 2000000 in
theorem writeBatch131 (ck cn : Int) (cs : ByteArray) (cl : List C) (u : Value) (d : Nat) (l : List ByteArray) (v : Value) (w : World) (hc : LNF 0 w w.heap.size d u cl) (hwf : Wf (.mk ck cn cs cl)) (hcnt : L4.cntC (.mk ck cn cs cl) ≤ 1000)
    (hv : TxtsAt w w.heap.size v l) (hl : l.length ≤ 3900) (hs : ∀ s ∈ l, s.size ≤ 9223372036854775807) (hlen : okC 16 (batC (.mk ck cn cs cl) l) = true → (encC 16 (batC (.mk ck cn cs cl) l)).length ≤ 1000000) :
    Calls Tryz.prog 131 #[.agg #[.int .i64 ck, .int .i64 cn, .string cs, u], v] w fun e w' => e = .returned (.tuple #[.string (putS (batC (.mk ck cn cs cl) l)), .int .i64 (putE (batC (.mk ck cn cs cl) l))]) ∧ Below w.heap.size w w' := by
  obtain ⟨i0, hi, hz0, hz1, hz2⟩ := L4.info25
  obtain ⟨S, hS⟩ : ∃ S, putS (batC (.mk ck cn cs cl) l) = S := ⟨_, rfl⟩
  obtain ⟨E, hE⟩ : ∃ E, putE (batC (.mk ck cn cs cl) l) = E := ⟨_, rfl⟩
  have HSE := Lib.hid (And.intro hS hE)
  rw [hS, hE]
  clear hS hE
  have HB := Lib.hid (Box.new w (.mk ck cn cs cl) u)
  have HC := Lib.hid hc
  have HWF := Lib.hid hwf
  have HS := Lib.hid hs
  obtain ⟨W1, hW1⟩ : ∃ W1, w.alloc (.cells #[.int .i64 ck, .int .i64 cn, .string cs, u] 38) = W1 := ⟨_, rfl⟩
  have HB1 : Hid (Box w (.mk ck cn cs cl) u W1) := by rw [← hW1]; exact HB.out
  obtain ⟨w1, hm, ho, hg⟩ := run_make_full (P := Tryz.prog) W1 (w.heap.size + 1) 36 38 i0 _ 4 Tryz.underlying36 hi hz0 hz1 .i64 .i64 l.length (by rw [hz2]; omega) (by unfold maxLen; omega) (by have := HB1.out.size; omega)
  rw [made_flat fC L4.zeroC 4 (by omega) rfl (.agg #[.int .i64 0, .int .i64 0, .string ⟨#[]⟩, .slice none 0 0]) rfl] at ho
  have hbw : Below W1.heap.size W1 w1 := (Below.refl _ _).grown hg (Nat.le_refl _) (fun k hk => by cases hk)
  have HB2 := Lib.hid (HB1.out.step hbw)
  have HO : Hid (w1.ownsRow (w.heap.size + 1) 38 4 (.slice (some ⟨W1.heap.size, 0, none⟩) l.length l.length) l.length ((tcsC l 0).flatMap fC)) := by
    unfold tcsC
    rw [List.take_zero, List.map_nil, List.nil_append, Nat.sub_zero]
    exact ho
  obtain ⟨A, cap, rfl, h1, h2, h3⟩ := hv
  unfold maxLen at h2
  obtain ⟨g, hgg⟩ : ∃ g, W1.heap.size = g := ⟨_, rfl⟩
  rw [hgg] at hm HO
  have HG : Hid (w.heap.size < g) := by rw [← hgg]; exact HB1.out.size
  rw [← hW1] at hm
  clear HB HB1 ho hg hbw hwf hs hc hW1 hgg
  obtain ⟨n, hn⟩ : ∃ n, l.length = n := ⟨_, rfl⟩
  have HN := Lib.hid hn
  have H3 := Lib.hid h3
  clear h3
  rw [hn] at hm HO h1 hl ⊢
  clear hn
  go_enter Tryz.func131, Tryz.ntmps131
  go_wp2_with fail
  go_loopw [14] (fun s14 wr => ∃ k : Nat, k ≤ n ∧ s14 = .int .i64 k ∧ Hid (Box w (.mk ck cn cs cl) u wr) ∧ Hid (wr.ownsRow (w.heap.size + 1) 38 4 (.slice (some ⟨g, 0, none⟩) n n) n ((tcsC l k).flatMap fC))) (fun s14 _ => n - (intOf s14).toNat)
  case atStart => exact ⟨0, Nat.zero_le _, rfl, HB2, HO⟩
  case round =>
    obtain ⟨k, hk, rfl, HBR, HOR⟩ := hrel
    clear HB2 HO
    by_cases hlt : k < n
    · have hkl : k < l.length := by rw [HN.out]; exact hlt
      obtain ⟨b, o, rfl, hb, hr⟩ := H3.out (by rw [HN.out]; omega)
      have c0' := hr k hkl
      have c0 := (HBR.out.old.cell (p := ⟨b, o + k, none⟩) hb).trans c0'
      have hset := tcsC_set l k hkl
      generalize l[k] = s at c0 hset
      have HSET := Lib.hid hset
      clear c0' hr H3 hset
      go_wp2_with fail
      refine (L4.text17 _ _).mono ?_
      rintro _ w2 ⟨rfl, hb2⟩
      have HBR2 := Lib.hid (HBR.out.step hb2)
      have hO2 : w2.ownsRow (w.heap.size + 1) 38 4 (.slice (some ⟨g, 0, none⟩) n n) n ((tcsC l k).flatMap fC) := L6.row_keep HOR.out (fun j hj => hb2.block j (L6.row_lt HOR.out hj))
      have hlen' := tcsC_len l k (by omega)
      obtain ⟨w3, hst, ho3, hg3, hs3⟩ := L6.row_store (P := Tryz.prog) 38 hO2 (fun x _ => fC_len x) (by rw [hlen', HN.out]) k (textC s) (by omega) (fC_len _) (fC_one _) L4.size25
      rw [HSET.out] at ho3
      have HO3 := Lib.hid ho3
      have HB3 : Hid (Box w (.mk ck cn cs cl) u w3) := ⟨HBR2.out.below.trans ⟨hg3.os, hg3.tape, hg3.output, by rw [hs3]; exact Nat.le_refl _, fun i hi => hg3.block i (by have := HBR2.out.size; omega) (fun e => by injection e with e; have := HG.out; omega)⟩⟩
      have hst' : (Instr.storeAt 38 (.pointer (some ⟨g, k * 4, none⟩)) (.agg #[.int .i64 2, .int .i64 0, .string s, .slice none 0 0])).run Tryz.prog w2 = .ok () w3 := hst
      clear hst ho3 hg3 hs3 hO2 hlen' hb2 HBR HOR c0
      go_wp2_with (refine wpList_store_by rfl 38 _ _ rfl (.pointer (some ⟨g, k * 4, none⟩)) (.agg #[.int .i64 2, .int .i64 0, .string s, .slice none 0 0]) rfl rfl hst' ?_)
      go_roundw
      case rel => exact ⟨k + 1, by omega, by go_num, HB3, HO3⟩
      case measure => simp [intOf]; omega
    · have hkn : k = n := by omega
      subst hkn
      have hLT : LNF (w.heap.size + 1) wr wr.heap.size 2 (.slice (some ⟨g, 0, none⟩) k k) (l.map textC) := by
        rw [← tcsC_end, HN.out]
        refine flat_lnf (lo := w.heap.size + 1) HOR.out (by rw [tcsC_len l k (by rw [HN.out]; exact Nat.le_refl _), HN.out]) (fun x hx => ?_)
        rw [← HN.out, tcsC_end] at hx
        obtain ⟨s, hs, rfl⟩ := List.mem_map.1 hx
        exact ⟨wf_text (HS.out s hs), rfl⟩
      have HF := Lib.hid (boxF HBR.out hLT)
      have HCN1 : Hid (L4.cntL (l.map textC) ≤ 5000) := by unfold Hid; rw [cnt_texts, HN.out]; omega
      have HCN2 : Hid (L4.cntL [.mk ck cn cs cl, listC (l.map textC)] ≤ 5000) := by
        unfold Hid
        have e1 : L4.cntC (listC (l.map textC)) = 1 + l.length := by unfold listC; rw [L4.cntC_mk, cnt_texts]
        rw [L4.cntL_cons, L4.cntL_cons, L4.cntL_nil, e1, HN.out]
        omega
      have HP := Lib.hid (fun D (A : Option Addr) (a b : Nat) w2 (hu : LAt w2 w2.heap.size D (.slice A a b) [.mk ck cn cs cl, listC (l.map textC)]) => L4.put9 D 3 0 ⟨#[]⟩ [.mk ck cn cs cl, listC (l.map textC)] (.slice A a b) w2 hu (by omega) (by omega) hlen)
      have HX : Hid ((C.mk 3 0 ⟨#[]⟩ [.mk ck cn cs cl, listC (l.map textC)]) = batC (.mk ck cn cs cl) l) := rfl
      rw [HX.out] at HP
      clear HOR HBR hLT HX hlen
      rw [HSE.out.1, HSE.out.2] at HP
      go_wp2_with fail
      go_region_held3 (fun W => W.cell? ⟨w.heap.size, 0, none⟩ = some (.int .i64 ck) ∧ W.cell? ⟨w.heap.size, 1, none⟩ = some (.int .i64 cn) ∧ W.cell? ⟨w.heap.size, 2, none⟩ = some (.string cs) ∧ W.cell? ⟨w.heap.size, 3, none⟩ = some u ∧ Box w (.mk ck cn cs cl) u W ∧ LNF (w.heap.size + 1) W W.heap.size 2 (.slice (some ⟨g, 0, none⟩) k k) (l.map textC))
        ((first | exact boxF (HF.out.2.2.2.2.1.drewN 1) (lnf_step HF.out.2.2.2.2.2 (below_drewN (Below.refl _ _) 1)) | exact boxS (by go_split_ands; assumption) (by go_split_ands; assumption) (by assumption) | exact boxS (by go_split_ands; assumption) (by go_split_ands; assumption) ((Below.refl _ _).alloc (Nat.le_refl _) _)))
        (first | (go_at_call 89; refine (L4.list18 (lo := w.heap.size + 1) _ _ _ _ (show LNF (w.heap.size + 1) _ _ 2 (.slice (some ⟨g, 0, none⟩) k k) (l.map textC) by go_split_ands; assumption) HCN1.out (Box.size (show Box w (.mk ck cn cs cl) u _ by go_split_ands; assumption)) (Nat.succ_pos _)).mono ?_; rintro _ w3 ⟨A3, n3, c3, D3, rfl, hl3, hb⟩; have HL3 := Lib.hid hl3; have HBX := Lib.hid (Box.step (show Box w (.mk ck cn cs cl) u _ by go_split_ands; assumption) hb); clear hl3) | (go_at_call 45; refine (HP.out _ _ _ _ _ HL6.out).mono ?_; rintro _ w7 ⟨rfl, hb⟩; have HFIN := Lib.hid (Box.old (Box.step (by go_split_ands; assumption) hb))) | (go_at_call 89; refine (L4.list18w _ _ _ _ (pair_built _ _ _ _ 0 _ _ _ _ _ (Nat.zero_le _) HWF.out (lnf_step HC.out HBX.out.old) (lnf_lo (Nat.zero_le _) HL3.out)) HCN2.out).mono ?_; rintro _ w6 ⟨A6, n6, c6, D6, rfl, hl6, hb⟩; have HL6 := Lib.hid hl6; clear hl6))
      go_wp2
      go_ret2
      exact ⟨rfl, HFIN.out⟩
end Go.Proofs.YtjanddnlhaionaaGreatDoor
