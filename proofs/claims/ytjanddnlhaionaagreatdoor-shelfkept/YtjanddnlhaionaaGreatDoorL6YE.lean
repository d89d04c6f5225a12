/-
  Contract of visit. No condition.
-/
import Derived.Test.YtjanddnlhaionaaGreatDoorL6YD
namespace Go.Proofs.YtjanddnlhaionaaGreatDoor.L6
open Go.RowKit

/-- The reader and the sector in its box. -/
structure QV (w : World) (B r : Nat) (v1 v2 : Value) (sb : Nat) (s : Sec) (rd : Rd) (W : World) : Prop where
  q : QIs W B r rd v1 v2
  s : W.heap[sb]? = some (.cells (secV s) 289 (0, 0))
  t : Turn (RF r v1 v2) w W
set_option maxRecDepth 100000 in
theorem QV.set {w : World} {B r : Nat} {v1 v2 : Value} {sb : Nat} {s : Sec} {rd rd' : Rd} {W : World} (h : QV w B r v1 v2 sb s rd W) (j : Nat) (u : Value) (hr : rd'.recs = rd.recs) (hd : rd'.data = rd.data) (hu : (rdRow rd v1 v2).setIfInBounds j u = rdRow rd' v1 v2) : QV w B r v1 v2 sb s rd' (W.setCell ⟨r, j, none⟩ u) :=
  ⟨h.q.set j u hr hd hu, by rw [Below.heap_setCell _ _ _ _ (fun e => ty_ne h.s h.q.row (by decide) e)]; exact h.s, h.t.setCell _ _ (.inl (.inl rfl))⟩
set_option maxRecDepth 100000 in
theorem QV.drew {w : World} {B r : Nat} {v1 v2 : Value} {sb : Nat} {s : Sec} {rd : Rd} {W : World} (h : QV w B r v1 v2 sb s rd W) : QV w B r v1 v2 sb s rd W.drew := ⟨h.q.keep (fun _ _ => rfl), h.s, h.t.drew⟩
set_option maxRecDepth 100000 in
theorem QV.below {w : World} {B r : Nat} {v1 v2 : Value} {sb : Nat} {s : Sec} {rd : Rd} {W W' : World} (h : QV w B r v1 v2 sb s rd W) (hb : Below W.heap.size W W') : QV w B r v1 v2 sb s rd W' :=
  ⟨h.q.below hb, by rw [hb.block _ (Array.getElem?_eq_some_iff.1 h.s).1]; exact h.s, h.t.trans (Turn.of_below (F := RF r v1 v2) hb) (fun i hi => .inl hi)⟩
def rd2 (rd : Rd) (s : Sec) : Rd := { rd with vis := rd.vis + 1, great := max rd.great s.life }
set_option maxRecDepth 100000 in
theorem visit_eq (rd : Rd) (t : ByteArray) : visit rd t = if rd.ended || !parseB t.data.toList || !expects (rd2 rd (parseS t.data.toList)) (parseS t.data.toList) then { rd2 rd (parseS t.data.toList) with ended := true } else takeS { rd2 rd (parseS t.data.toList) with ended := false } (parseS t.data.toList) := by
  unfold visit parseB parseS
  cases h : says t.data.toList with
  | none => simp [visitO, rd2, zeroS]
  | some s =>
    have he : expects (rd2 rd s) s = expects rd s := rfl
    simp only [visitO, Option.getD_some, Option.isSome_some, Bool.not_true, Bool.or_false, he]
    cases hr : rd.ended with
    | true => simp [rd2]
    | false => cases hx : expects rd s <;> simp [rd2, hr]
set_option maxRecDepth 100000 in
theorem parseS_data (l : List UInt8) : (parseS l).data.length ≤ 51 := by
  unfold parseS says
  by_cases hb : badSize l = true
  · simp [hb, zeroS]
  · by_cases hv : isValid l = true
    · simp only [hb, hv, if_true, Bool.false_eq_true, if_false, Option.getD_some, secOf, List.length_take]
      have : sizeOfS l ≤ 51 := by
        unfold badSize at hb
        simp at hb
        omega
      omega
    · simp [hb, hv, zeroS]
set_option maxRecDepth 100000 in
set_option maxHeartbeats 1000000 in
theorem visit41 {w : World} {B r : Nat} {rd : Rd} {v1 v2 : Value} (h : QIs w B r rd v1 v2) (hok : OkRd rd) (hv : rd.vis < 1000000) (hB : B ≤ w.heap.size) (t : ByteArray) (ht : t.size = 64) :
    Calls Tryz.prog 169 #[.pointer (some ⟨r, 0, none⟩), .string t] w fun e w' => e = .returned (.tuple #[]) ∧ ∃ u1 u2, QIs w' B r (visit rd t) u1 u2 ∧ Turn (RF r v1 v2) w w' ∧ ∀ k, RF r u1 u2 k → RF r v1 v2 k ∨ w.heap.size ≤ k := by
  rw [visit_eq]
  have HP := Lib.hid (parse59 t ht)
  obtain ⟨en, hen⟩ : ∃ en, rd.ended = en := ⟨_, rfl⟩
  rw [hen]
  have hd := parseS_data t.data.toList
  generalize parseS t.data.toList = s at HP hd ⊢
  generalize parseB t.data.toList = vb at HP ⊢
  obtain ⟨ans, hans⟩ : ∃ ans, expects (rd2 rd s) s = ans := ⟨_, rfl⟩
  rw [hans]
  have HANS := Lib.hid hans
  clear hans
  have hvis := hok.v
  obtain ⟨-, -, -, c3, -, -, -, -, cf⟩ := rd_cells h.row
  have hcf3 := cf 3
  have h1 := h.set (rd' := { rd with vis := rd.vis + 1 }) 3 (.int .i64 ((rd.vis : Int) + 1)) rfl rfl rfl
  have H1 := Lib.hid h1
  have HT1 : Hid (Turn (RF r v1 v2) w (w.setCell ⟨r, 3, none⟩ (.int .i64 ((rd.vis : Int) + 1)))) := (Turn.refl _ _).setCell _ _ (.inl (.inl rfl))
  clear h h1 cf
  go_enter Tryz.func169, Tryz.ntmps169
  go_upto_region 1 with fail
  generalize w.setCell ⟨r, 3, none⟩ (.int .i64 ((rd.vis : Int) + 1)) = w1 at H1 HT1
  clear c3 hcf3
  have hz := Tryz.z112
  have hz2 := Tryz.z112'.2
  go_wp2_with fail
  refine (HP.out _).mono ?_
  rintro e w2 ⟨rfl, hb2⟩
  have HG := Lib.hid (heap_alloc_new w2 (.cells #[.int .i64 0, .int .i64 0, .int .i64 0, .bool false, .string ⟨#[]⟩] 289))
  have HQ0 : Hid (QV w B r v1 v2 w2.heap.size s { rd with vis := rd.vis + 1 } ((w2.alloc (.cells #[.int .i64 0, .int .i64 0, .int .i64 0, .bool false, .string ⟨#[]⟩] 289)).setRow w2.heap.size (secV s))) := by
    rw [World.setRow_alloc_new]
    refine ⟨(H1.out.below hb2).below ((Below.refl _ _).alloc (Nat.le_refl _) _), heap_alloc_new _ _, ?_⟩
    exact (HT1.out.trans (Turn.of_below (F := RF r v1 v2) hb2) (fun i hi => .inl hi)).alloc _
  have HSV : Hid ((secV s).size = 5) := rfl
  have HI := Lib.hid Tryz.z112'.2
  have HONE : Hid (((#[.int .i64 0, .int .i64 0, .int .i64 0, .bool false, .string ⟨#[]⟩] : Array Value)).all (·.oneCell') = true) := by unfold Hid; simp [Value.oneCell']
  have HONE2 : Hid ((secV s).all (·.oneCell') = true) := by unfold Hid secV; simp [Value.oneCell']
  clear H1 HT1 hb2
  obtain ⟨X, hX⟩ : ∃ X, secV s = X := ⟨_, rfl⟩
  have HX := Lib.hid hX
  rw [hX] at HSV HONE2 HQ0 ⊢
  clear hX
  go_wp2_with (first | (refine wpList_store_row rfl 289 _ _ rfl w2.heap.size _ rfl rfl 289 _ HG.out (by rw [HSV.out]; exact HI.out) (by rw [HSV.out]; rfl) HONE2.out ?_) | fail)
  clear HG HONE HP
  generalize hw3 : (w2.alloc (.cells #[.int .i64 0, .int .i64 0, .int .i64 0, .bool false, .string ⟨#[]⟩] 289)).setRow w2.heap.size X = w3 at HQ0
  clear hw3
  have HQD := Lib.hid HQ0.out.drew
  obtain ⟨-, -, c2, -, -, -, -, -, cf⟩ := rd_cells HQ0.out.q.row
  obtain ⟨-, -, d2, -, -, -, -, -, df⟩ := rd_cells HQD.out.q.row
  obtain ⟨b0, -, -, -, -⟩ := sec_cells HQ0.out.s
  obtain ⟨e0, -, -, -, -⟩ := sec_cells HQD.out.s
  have hcf2 := cf 2
  have hdf2 := df 2
  clear cf df
  obtain ⟨G, hG⟩ : ∃ G : Nat, max rd.great s.life = G := ⟨_, rfl⟩
  have hGi : (if rd.great < s.life then (s.life : Int) else (rd.great : Int)) = (G : Int) := by split <;> omega
  have HQ2 : Hid (QV w B r v1 v2 w2.heap.size s (rd2 rd s) (w3.setCell ⟨r, 2, none⟩ (.int .i64 (G : Int))).drew) := HQD.out.set (rd' := rd2 rd s) 2 (.int .i64 (G : Int)) rfl rfl (by rw [← hG]; rfl)
  go_still_tail 10, (by kernel_rfl)
  change wpList _ _ _ _ _ (World.drew _)
  simp only at c2 d2
  go_upto_region 3 with fail
  generalize (w3.setCell ⟨r, 2, none⟩ (.int .i64 (G : Int))).drew = w4 at HQ2
  clear c2 d2 b0 e0 hcf2 hdf2 hG hGi HQ0 HQD hz hz2
  obtain ⟨-, -, -, -, c4, -, -, -, cf⟩ := rd_cells HQ2.out.q.row
  have hcf4 := cf 4
  have hrow : Hid (w4.heap[w2.heap.size]? = some (.cells X 289 (0, 0))) := by unfold Hid; rw [← HX.out]; exact HQ2.out.s
  have HEND : Hid (∀ W, QV w B r v1 v2 w2.heap.size s (rd2 rd s) W → QIs (W.setCell ⟨r, 4, none⟩ (.bool true)) B r { rd2 rd s with ended := true } v1 v2 ∧ Turn (RF r v1 v2) w (W.setCell ⟨r, 4, none⟩ (.bool true))) := fun W hW => by
    have := hW.set (rd' := { rd2 rd s with ended := true }) 4 (.bool true) rfl rfl rfl
    exact ⟨this.q, this.t⟩
  have hended : (rd2 rd s).ended = rd.ended := rfl
  rw [hended, hen] at c4
  clear cf hended
  clear hen
  cases en with
  | true =>
    have HE := Lib.hid (HEND.out _ HQ2.out)
    go_wp2
    go_end0
    exact ⟨rfl, _, _, HE.out.1, HE.out.2, fun k hk => .inl hk⟩
  | false =>
    cases vb with
    | false =>
      have HE := Lib.hid (HEND.out _ HQ2.out)
      go_wp2
      go_end0
      exact ⟨rfl, _, _, HE.out.1, HE.out.2, fun k hk => .inl hk⟩
    | true =>
      have hok2 : OkRd (rd2 rd s) := ⟨hok.r, hok.d, hok.p, by show rd.vis + 1 ≤ 1000000; omega⟩
      have HEX := Lib.hid (expects60 HQ2.out.q hok2 s)
      rw [HANS.out] at HEX
      unfold secV at HEX
      obtain ⟨b0, b1, b2, b3, b4⟩ := sec_cells HQ2.out.s
      have hok3 : OkRd { rd2 rd s with ended := false } := ⟨hok2.r, hok2.d, hok2.p, hok2.v⟩
      have HOK3 := Lib.hid hok3
      clear hok hok2 hok3
      have HI' : Hid ((Tryz.prog.info? 289).map (·.size) = some X.size) := by unfold Hid; rw [HSV.out]; exact HI.out
      go_wp2_with fail
      refine HEX.out.mono ?_
      rintro e w5 ⟨rfl, hb5⟩
      clear b0 b1 b2 b3 b4
      have HQ5 := Lib.hid (HQ2.out.below hb5)
      obtain ⟨-, -, -, -, d4, -, -, -, df⟩ := rd_cells HQ5.out.q.row
      have hdf4 := df 4
      have d4 : w5.cell? ⟨r, 4, none⟩ = some (.bool false) := by rw [hb5.cell (p := ⟨r, 4, none⟩) (HQ2.out.q.lt (.inl rfl))]; exact c4
      clear hb5 df c4 hcf4
      cases ans with
      | false =>
        have HE := Lib.hid (HEND.out _ HQ5.out)
        clear HEND HEX
        go_wp2
        go_end0
        exact ⟨rfl, _, _, HE.out.1, HE.out.2, fun k hk => .inl hk⟩
      | true =>
        have hq6 := HQ5.out.set (rd' := { rd2 rd s with ended := false }) 4 (.bool false) rfl rfl rfl
        have HQ6 := Lib.hid hq6
        have hrow6 : Hid ((w5.setCell ⟨r, 4, none⟩ (.bool false)).heap[w2.heap.size]? = some (.cells X 289 (0, 0))) := by unfold Hid; rw [← HX.out]; exact hq6.s
        have HTK := Lib.hid (take61 hq6.q HOK3.out (Nat.le_trans hB hq6.t.size) s hd)
        rw [HX.out] at HTK
        clear HEND HEX hq6
        go_wp2_with (first | (refine wpList_load_row rfl 289 _ rfl w2.heap.size rfl 289 X (0, 0) _ hrow6.out Tryz.underlying289 rfl HI'.out ?_) | fail)
        refine HTK.out.mono ?_
        rintro e w7 ⟨rfl, u1, u2, hq7, ht7, hat7⟩
        have HF : Hid (Turn (RF r v1 v2) w w7 ∧ ∀ k, RF r u1 u2 k → RF r v1 v2 k ∨ w.heap.size ≤ k) := by
          refine ⟨HQ6.out.t.trans ht7 (fun i hi => .inl hi), fun k hk => ?_⟩
          rcases hat7 k hk with h | h
          · exact .inl h
          · exact .inr (Nat.le_trans HQ6.out.t.size h)
        have HQ7 := Lib.hid hq7
        clear hq7 ht7 hat7
        go_wp2
        go_end0
        exact ⟨rfl, _, _, HQ7.out, HF.out.1, HF.out.2⟩
end Go.Proofs.YtjanddnlhaionaaGreatDoor.L6
