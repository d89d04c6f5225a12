/-
  SpanTurns returns true. No condition.
-/
import Derived.Test.YtecefhoinggmgaaPH
import Derived.Test.YtecefhoinggmgaaTA
namespace Go.Proofs.Ytecefhoinggmgaa
open Go.RowKit

theorem diff_few {a b : List Row} (ha : rowsOK a = true) (hb : rowsOK b = true) : (diffR a b).length ≤ 1000 := by
  have h1 := ((rowsOK_iff a).1 ha).1
  have h2 := ((rowsOK_iff b).1 hb).1
  have hE : diffR a b = diffL (b.map asPc) (strA a (b.map asPc)) := by unfold diffR; rw [ha, hb]; rfl
  rw [hE]
  have h3 := diffL_length (b.map asPc) (strA a (b.map asPc))
  have h4 : (strA a (b.map asPc)).length ≤ _ := strN_length _ _ _ _ _
  rw [List.length_map] at h4
  omega
theorem below_grownP {w w' : World} {n₀ : Nat} {v : Value} {n : Nat} {xs : List Value} (h : w.ownsRow n₀ 44 8 v n xs) (hn : n₀ ≤ w.heap.size) (hg : w.grownBy w' v.ownBlock) : Below n₀ w w' :=
  ⟨hg.os, hg.tape, hg.output, hg.size, fun i hi => by
    rcases h.2 with ⟨rfl, _⟩ | ⟨g, cap, cur, rfl, hb, hgg, _⟩
    · exact hg.block i (by omega) (by simp [Value.ownBlock])
    · refine hg.block i (by omega) (fun e => ?_)
      have : i = g := by simpa [Value.ownBlock] using e
      omega⟩

set_option maxRecDepth 100000 in
set_option maxHeartbeats 2000000 in
theorem turns7 (a b : List Row) (av bv : Value) (w : World) (ha : RowsAt w w.heap.size av a) (hb : RowsAt w w.heap.size bv b) :
    Calls Try.prog 7 #[av, bv] w fun e w' => e = .returned (.bool true) ∧ Below w.heap.size w w' := by
  have HFA := Lib.hid (few9 a av _ ha)
  have HFB := Lib.hid (few9 b bv _ hb)
  have HCA := Lib.hid (check18 a av _ ha)
  have HA := Lib.hid ha
  have HB := Lib.hid hb
  have HLV := Lib.hid lives10
  obtain ⟨aA, ac, rfl, -⟩ := ha
  obtain ⟨bA, bc, rfl, -⟩ := hb
  cases hfa : fewB a with
  | false =>
    rw [hfa] at HFA
    go_enter Try.func7, Try.ntmps7
    go_wp2_with fail
    refine HFA.out.mono ?_
    rintro e w' ⟨rfl, rfl⟩
    go_wp2_with (go_at_call 10; go_must (refine (HLV.out _).mono ?_); rintro e w9 ⟨rfl, hb9⟩)
    go_ret
    exact ⟨rfl, hb9⟩
  | true =>
  rw [hfa] at HFA
  cases hfb : fewB b with
  | false =>
    rw [hfb] at HFB
    go_enter Try.func7, Try.ntmps7
    go_wp2_with fail
    refine HFA.out.mono ?_
    rintro e w' ⟨rfl, rfl⟩
    go_wp2_with fail
    refine HFB.out.mono ?_
    rintro e w' ⟨rfl, rfl⟩
    go_wp2_with (go_at_call 10; go_must (refine (HLV.out _).mono ?_); rintro e w9 ⟨rfl, hb9⟩)
    go_ret
    exact ⟨rfl, hb9⟩
  | true =>
  rw [hfb] at HFB
  cases hoa : rowsOK a with
  | false =>
    rw [hoa] at HCA
    go_enter Try.func7, Try.ntmps7
    go_wp2_with fail
    refine HFA.out.mono ?_
    rintro e w' ⟨rfl, rfl⟩
    go_wp2_with fail
    refine HFB.out.mono ?_
    rintro e w' ⟨rfl, rfl⟩
    go_wp2_with fail
    refine HCA.out.mono ?_
    rintro e w1 ⟨rfl, hb1⟩
    go_wp2_with (go_at_call 10; go_must (refine (HLV.out _).mono ?_); rintro e w9 ⟨rfl, hb9⟩)
    go_ret
    exact ⟨rfl, hb1.trans (hb9.mono hb1.size)⟩
  | true =>
  rw [hoa] at HCA
  cases hob : rowsOK b with
  | false =>
    go_enter Try.func7, Try.ntmps7
    go_wp2_with fail
    refine HFA.out.mono ?_
    rintro e w' ⟨rfl, rfl⟩
    go_wp2_with fail
    refine HFB.out.mono ?_
    rintro e w' ⟨rfl, rfl⟩
    go_wp2_with fail
    refine HCA.out.mono ?_
    rintro e w1 ⟨rfl, hb1⟩
    have HCB := Lib.hid (check18 b _ _ (HB.out.step hb1))
    rw [hob] at HCB
    go_wp2_with fail
    refine HCB.out.mono ?_
    rintro e w2 ⟨rfl, hb2⟩
    go_wp2_with (go_at_call 10; go_must (refine (HLV.out _).mono ?_); rintro e w9 ⟨rfl, hb9⟩)
    go_ret
    exact ⟨rfl, (hb1.trans (hb2.mono hb1.size)).trans (hb9.mono (by have := hb1.size; have := hb2.size; omega))⟩
  | true =>
  have HAP := Lib.hid (apply_diff hoa hob)
  have HAQ := Lib.hid (apply_diff hob hoa)
  have HSW := Lib.hid (diff_swap hoa hob)
  have HOB := Lib.hid hob
  have hfew := diff_few hoa hob
  obtain ⟨i0, hi, hz0, hz1, hz2⟩ := info_parts Try.info44
  clear hfa hfb hoa hob
  go_enter Try.func7, Try.ntmps7
  go_wp2_with fail
  refine HFA.out.mono ?_
  rintro e w' ⟨rfl, rfl⟩
  go_wp2_with fail
  refine HFB.out.mono ?_
  rintro e w' ⟨rfl, rfl⟩
  go_wp2_with fail
  refine HCA.out.mono ?_
  rintro e w1 ⟨rfl, hb1⟩
  have HCB := Lib.hid (check18 b _ _ (HB.out.step hb1))
  rw [HOB.out] at HCB
  have HB1 := Lib.hid hb1
  clear hb1 HFA HFB HCA
  go_wp2_with fail
  refine HCB.out.mono ?_
  rintro e w2 ⟨rfl, hb2⟩
  have HB2 := Lib.hid (HB1.out.trans (hb2.mono HB1.out.size))
  have HA2 := Lib.hid ((HA.out.step HB1.out).step hb2)
  have HBB2 := Lib.hid ((HB.out.step HB1.out).step hb2)
  clear hb2 HB1 HCB HA HB
  have HDI := Lib.hid (diff25 a b _ _ w2 HA2.out HBB2.out)
  obtain ⟨D, hD⟩ : ∃ D, diffR a b = D := ⟨_, rfl⟩
  rw [hD] at HDI HAP HSW hfew
  clear hD
  go_wp2_with fail
  refine HDI.out.mono ?_
  rintro e w3 ⟨v3, rfl, ho3, hb3⟩
  have HP3 := Lib.hid ho3.pcs
  obtain ⟨dA, dc, rfl⟩ := ho3.slice
  have HB3 := Lib.hid (HB2.out.trans (hb3.mono HB2.out.size))
  have HA3 := Lib.hid (HA2.out.step hb3)
  have HBB3 := Lib.hid (HBB2.out.step hb3)
  clear hb3 ho3 HDI HB2 HA2 HBB2
  have HA := Lib.hid (apply22 a D _ _ w3 HA3.out HP3.out)
  rw [HAP.out] at HA
  go_wp2_with fail
  refine HA.out.mono ?_
  rintro e w4 ⟨v4, rfl, ho4, hb4⟩
  have HX4 := Lib.hid ho4.rows
  obtain ⟨xA, xc, rfl⟩ := ho4.slice
  have HB4 := Lib.hid (HB3.out.trans (hb4.mono HB3.out.size))
  have HA4 := Lib.hid (HA3.out.step hb4)
  have HBB4 := Lib.hid (HBB3.out.step hb4)
  have HP4 := Lib.hid (HP3.out.step hb4)
  clear hb4 ho4 HA HB3 HA3 HBB3 HP3
  go_wp2
  go_loopw [8, 9] (fun s8 i wr => ∃ k : Nat, k ≤ D.length ∧ i = .int .i64 k ∧ OwnP wr w4.heap.size s8 ((D.take k).map swapP) ∧ Hid (Below w4.heap.size w4 wr)) (fun _ i _ => D.length - (intOf i).toNat)
  case atStart => exact ⟨0, Nat.zero_le _, rfl, OwnP.nil _ _, Below.refl _ _⟩
  case round =>
    obtain ⟨k, hk, rfl, hown, HBW⟩ := hrel
    have hlk : ((D.take k).map swapP).length = k := by simp; omega
    obtain ⟨sA, scap, hsv⟩ := hown.slice
    rw [hlk] at hsv
    subst hsv
    obtain ⟨Bk, hBk⟩ : ∃ Bk, (D.take k).map swapP = Bk := ⟨_, rfl⟩
    rw [hBk] at hown
    have HBK := Lib.hid hBk
    have HO : Hid (World.ownsRow wr w4.heap.size 44 8 (.slice sA k scap) k (pcells Bk)) := by
      unfold OwnP at hown
      rw [← hBk, hlk, hBk] at hown
      exact hown
    clear hBk hown hlk
    by_cases hlt : k < D.length
    · obtain ⟨A', c', e, h1, h2, h3⟩ := HP4.out
      injection e with e e1 e2
      subst e e2
      obtain ⟨rb, ro, rfl, hrb, hr⟩ := h3 (by omega)
      have hrk := hr k hlt
      have htk : (D.take (k + 1)).map swapP = (D.take k).map swapP ++ [swapP D[k]] := by
        rw [List.take_succ_eq_append_getElem hlt, List.map_append]; rfl
      clear hr h3 e1
      generalize D[k] = p at hrk htk
      rw [HBK.out] at htk
      have HTK := Lib.hid htk
      obtain ⟨f, e, ⟨hk', hn, hs⟩, ⟨nk, nn, ns⟩⟩ := p
      have HSB : Hid (∀ W : World, Below w4.heap.size w4 W → (fun w'' => w''.cell? ⟨rb, ro + k * 8, none⟩ = some (.int .i64 f) ∧ w''.cell? ⟨rb, ro + k * 8 + 1, none⟩ = some (.int .i64 e) ∧ w''.cell? ⟨rb, ro + k * 8 + 2, none⟩ = some (.int .i64 hk') ∧ w''.cell? ⟨rb, ro + k * 8 + 3, none⟩ = some (.int .i64 hn) ∧ w''.cell? ⟨rb, ro + k * 8 + 4, none⟩ = some (.string hs) ∧ w''.cell? ⟨rb, ro + k * 8 + 5, none⟩ = some (.int .i64 nk) ∧ w''.cell? ⟨rb, ro + k * 8 + 6, none⟩ = some (.int .i64 nn) ∧ w''.cell? ⟨rb, ro + k * 8 + 7, none⟩ = some (.string ns) ∧ Below w4.heap.size w4 w'') W) := by
        intro W h
        obtain ⟨c0, c1, c2, c3, c4, c5, c6, c7⟩ := hrk.keep fun o => h.cell (p := ⟨rb, o, none⟩) hrb
        exact ⟨c0, c1, c2, c3, c4, c5, c6, c7, h⟩
      obtain ⟨c0, c1, c2, c3, c4, c5, c6, c7, -⟩ := HSB.out wr HBW.out
      have hw0 : rb < wr.heap.size := Nat.lt_of_lt_of_le hrb HBW.out.size
      clear hrk htk
      unfold maxLen at h2
      have HBD : Hid (Below w4.heap.size w4 wr.drew) := HBW.out.drew
      have HBA : Hid (Below w4.heap.size w4 (wr.drew.alloc (.cells #[.int .i64 f, .int .i64 e, .int .i64 nk, .int .i64 nn, .string ns, .int .i64 hk', .int .i64 hn, .string hs] 44))) := HBD.out.alloc HBD.out.size _
      have HOA : Hid (World.ownsRow (wr.drew.alloc (.cells #[.int .i64 f, .int .i64 e, .int .i64 nk, .int .i64 nn, .string ns, .int .i64 hk', .int .i64 hn, .string hs] 44)) w4.heap.size 44 8 (.slice sA k scap) k (pcells Bk)) := World.ownsRow.alloc (World.ownsRow.kept HO.out (row := none) ⟨rfl, rfl, rfl, Nat.le_refl _, fun _ _ _ => rfl⟩ (by cases (Value.slice sA k scap).ownBlock <;> simp)) _
      have HNEWS : Hid (∀ j u, (pcC (f, e, (nk, nn, ns), (hk', hn, hs)))[j]? = some u → World.cell? (wr.drew.alloc (.cells #[.int .i64 f, .int .i64 e, .int .i64 nk, .int .i64 nn, .string ns, .int .i64 hk', .int .i64 hn, .string hs] 44)) ((⟨wr.heap.size, 0, none⟩ : Addr).add j) = some u) :=
        World.news_of_block (cs := #[.int .i64 f, .int .i64 e, .int .i64 nk, .int .i64 nn, .string ns, .int .i64 hk', .int .i64 hn, .string hs]) (t := 44) (fr := (0, 0)) (heap_alloc_new wr.drew _)
      have HONE : Hid (∀ u ∈ pcC (f, e, (nk, nn, ns), (hk', hn, hs)), u.oneCell' = true) := by unfold Hid; simp [pcC, Value.oneCell']
      have HSZ : Hid (w4.heap.size ≤ (wr.drew.alloc (.cells #[.int .i64 f, .int .i64 e, .int .i64 nk, .int .i64 nn, .string ns, .int .i64 hk', .int .i64 hn, .string hs] 44)).heap.size) := HBA.out.size
      have HAG : Hid (∀ w1, World.grownBy (wr.drew.alloc (.cells #[.int .i64 f, .int .i64 e, .int .i64 nk, .int .i64 nn, .string ns, .int .i64 hk', .int .i64 hn, .string hs] 44)) w1 (Value.ownBlock (.slice sA k scap)) → Below w4.heap.size w4 w1) := fun w1 h => HBA.out.trans (below_grownP HOA.out HSZ.out h)
      have hk1 : k + 1 ≤ 1001 := by omega
      go_wp2_with fail
      go_region_held3 (fun w'' => w''.cell? ⟨rb, ro + k * 8, none⟩ = some (.int .i64 f) ∧ w''.cell? ⟨rb, ro + k * 8 + 1, none⟩ = some (.int .i64 e) ∧ w''.cell? ⟨rb, ro + k * 8 + 2, none⟩ = some (.int .i64 hk') ∧ w''.cell? ⟨rb, ro + k * 8 + 3, none⟩ = some (.int .i64 hn) ∧ w''.cell? ⟨rb, ro + k * 8 + 4, none⟩ = some (.string hs) ∧ w''.cell? ⟨rb, ro + k * 8 + 5, none⟩ = some (.int .i64 nk) ∧ w''.cell? ⟨rb, ro + k * 8 + 6, none⟩ = some (.int .i64 nn) ∧ w''.cell? ⟨rb, ro + k * 8 + 7, none⟩ = some (.string ns) ∧ Below w4.heap.size w4 w'')
        ((apply HSB.out; first | exact HBD.out | exact HBA.out | exact HAG.out _ (by assumption)))
        (first | (refine step_append_lies _ rfl _ _ 42 rfl w4.heap.size 44 i0 _ 8 80 Try.underlying42 hi hz0 hz1 hz2 rfl (by omega) (.slice sA k scap) k (pcells Bk) (by simp [Act.eval]) HOA.out ⟨wr.heap.size, 0, none⟩ 1 1 (pcC (f, e, (nk, nn, ns), (hk', hn, hs))) (by simp [Act.eval]) rfl HNEWS.out HONE.out (by omega) (by unfold maxLen; omega) (by omega) HSZ.out _ rfl ?_; intro g cap w1 hown hgrow hat hlt'))
      have HN : Hid (OwnP w1 w4.heap.size (.slice (some ⟨g, 0, none⟩) (k + 1) cap) ((D.take (k + 1)).map swapP)) := by
        unfold Hid OwnP
        have e1 : ((D.take (k + 1)).map swapP).length = k + 1 := by simp; omega
        rw [e1, HTK.out, pcells_append]
        exact hown
      have HB1 := Lib.hid (HAG.out _ hgrow)
      clear hown hgrow hat HO HOA HAG HBA HBD HSB HNEWS HTK HBK
      go_wp2
      go_roundw
      case rel => exact ⟨k + 1, by omega, by go_num, HN.out, HB1⟩
      case measure => simp [intOf]; omega
    · have hkl : k = D.length := by omega
      subst hkl
      rw [List.take_length] at HBK
      have hBl : Bk.length = D.length := by rw [← HBK.out, List.length_map]
      have HOP : Hid (OwnP wr w4.heap.size (.slice sA D.length scap) Bk) := by
        unfold Hid OwnP
        rw [hBl]; exact HO.out
      rw [HBK.out] at HSW
      have HAR := Lib.hid ((HA4.out.below HBW.out).more HBW.out.size)
      have HBR := Lib.hid ((HBB4.out.below HBW.out).more HBW.out.size)
      have HXR := Lib.hid ((HX4.out.below HBW.out).more HBW.out.size)
      have HBT := Lib.hid (HB4.out.trans (HBW.out.mono HB4.out.size))
      have HPR := Lib.hid HOP.out.pcs
      clear HO HOP HBK HBW HA4 HBB4 HX4 HP4 HB4 hBl
      have HAB := Lib.hid (apply22 b Bk _ _ wr HBR.out HPR.out)
      rw [← HSW.out, HAQ.out] at HAB
      go_wp2_with fail
      refine HAB.out.mono ?_
      rintro e w5 ⟨v5, rfl, ho5, hb5⟩
      have HY5 := Lib.hid ho5.rows
      obtain ⟨yA, yc, rfl⟩ := ho5.slice
      have HB5 := Lib.hid (HBT.out.trans (hb5.mono HBT.out.size))
      have HA5 := Lib.hid (HAR.out.step hb5)
      have HBB5 := Lib.hid (HBR.out.step hb5)
      have HX5 := Lib.hid (HXR.out.step hb5)
      have HP5 := Lib.hid (HPR.out.step hb5)
      clear hb5 ho5 HAB HBT HAR HBR HXR HPR
      have HS1 := Lib.hid (same17 b b _ _ w5 HX5.out HBB5.out)
      rw [decide_eq_true rfl] at HS1
      go_wp2_with fail
      refine HS1.out.mono ?_
      rintro e w6 ⟨rfl, hb6⟩
      have HB6 := Lib.hid (HB5.out.trans (hb6.mono HB5.out.size))
      have HA6 := Lib.hid (HA5.out.step hb6)
      have HBB6 := Lib.hid (HBB5.out.step hb6)
      have HY6 := Lib.hid (HY5.out.step hb6)
      have HP6 := Lib.hid (HP5.out.step hb6)
      clear hb6 HS1 HB5 HA5 HBB5 HY5 HP5 HX5
      have HS2 := Lib.hid (same17 a a _ _ w6 HY6.out HA6.out)
      rw [decide_eq_true rfl] at HS2
      go_wp2_with fail
      refine HS2.out.mono ?_
      rintro e w7 ⟨rfl, hb7⟩
      have HB7 := Lib.hid (HB6.out.trans (hb7.mono HB6.out.size))
      have HA7 := Lib.hid (HA6.out.step hb7)
      have HBB7 := Lib.hid (HBB6.out.step hb7)
      have HP7 := Lib.hid (HP6.out.step hb7)
      clear hb7 HS2 HB6 HA6 HBB6 HY6 HP6
      have HDB := Lib.hid (diff25 b a _ _ w7 HBB7.out HA7.out)
      rw [HSW.out] at HDB
      go_wp2_with fail
      refine HDB.out.mono ?_
      rintro e w8 ⟨v8, rfl, ho8, hb8⟩
      have HS3 := Lib.hid (samePieces24 Bk Bk _ _ w8 ho8.pcs (HP7.out.step hb8))
      rw [decide_eq_true rfl] at HS3
      obtain ⟨zA, zc, rfl⟩ := ho8.slice
      have HB8 := Lib.hid (HB7.out.trans (hb8.mono HB7.out.size))
      clear hb8 ho8 HDB HB7 HA7 HBB7 HP7
      go_wp2_with fail
      refine HS3.out.mono ?_
      rintro e w9 ⟨rfl, hb9⟩
      have HB9 := Lib.hid (HB8.out.trans (hb9.mono HB8.out.size))
      clear hb9 HS3 HB8
      go_wp2_with fail
      refine (HLV.out _).mono ?_
      rintro e w10 ⟨rfl, hb10⟩
      have HB10 := Lib.hid (HB9.out.trans (hb10.mono HB9.out.size))
      clear hb10
      go_wp2
      go_ret
      exact ⟨rfl, HB10.out⟩
end Go.Proofs.Ytecefhoinggmgaa
