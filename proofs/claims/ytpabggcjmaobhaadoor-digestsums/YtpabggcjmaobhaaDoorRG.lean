/-
  The document's Sum.
-/
import Derived.Test.YtpabggcjmaobhaaDoorRE
import Derived.Test.YtpabggcjmaobhaaDoorL
namespace Go.Proofs.YtpabggcjmaobhaaDoor
open Go.RowKit

theorem cut64 (al : List UInt8) (j : Nat) : (⟨al.toArray⟩ : ByteArray).extract j (j + 64) = ⟨((al.drop j).take 64).toArray⟩ := by
  apply ByteArray.ext
  rw [ByteArray.data_extract]
  apply Array.ext'
  simp

/-- The state lies in the first block. -/
structure G10 (w : World) (S : St) (wr : World) : Prop where
  hg : wr.heap[w.heap.size]? = some (.cells S.cells 38 (0, 0))
  below : Below w.heap.size w wr

set_option maxRecDepth 100000 in
set_option maxHeartbeats 1600000 in
theorem refSum10 (l al : List UInt8) (hP : ∀ W, Calls Tryd.prog 19 #[.string ⟨l.toArray⟩] W fun e w' => e = .returned (.string ⟨al.toArray⟩) ∧ Below W.heap.size W w') (hal : al.length ≤ 100000) (hmod : al.length % 64 = 0) (w : World) :
    Calls Tryd.prog 10 #[.string ⟨l.toArray⟩] w fun e w' => e = .returned (.string ⟨((foldB keysL initS al).list.flatMap by4).toArray⟩) ∧ Below w.heap.size w w' := by
  have HP := Lib.hid hP
  have hi38 : (Tryd.prog.info? 38).map (·.size) = some 8 := by kernel_rfl
  have HI38 := Lib.hid hi38
  obtain ⟨R, hR⟩ : ∃ R, (foldB keysL initS al).list.flatMap by4 = R := ⟨_, rfl⟩
  rw [hR]
  have HR := Lib.hid hR
  have HO8 := Lib.hid (St.oneCell initS)
  have HG0 : Hid (∀ z, G10 w initS ((w.alloc (.cells z 38)).setRow w.heap.size initS.cells)) := fun z => ⟨setRow_heap _ _ _ _ _ _ (heap_alloc_new _ _), ((Below.refl _ _).alloc (Nat.le_refl _) _).trans ⟨rfl, rfl, rfl, by simp, fun i hi => setRow_other _ _ _ _ (by omega)⟩⟩
  clear hP hi38 hR
  go_enter Tryd.func10, Tryd.ntmps10
  go_wp2_with (refine wpList_store_row rfl 38 _ _ rfl w.heap.size initS.cells rfl rfl 38 _ (heap_alloc_new _ _) (by exact HI38.out) (by rfl) HO8.out ?_)
  refine (HP.out _).mono ?_
  rintro e' w1 ⟨rfl, hb1⟩
  have HG1 : Hid (G10 w initS w1) := by
    have h0 := HG0.out (st8 0 0 0 0 0 0 0 0)
    exact ⟨(hb1.block _ (by simp)).trans h0.hg, h0.below.trans (hb1.mono (by simp))⟩
  clear hb1 HG0 HO8 HP
  generalize initS = I at HG1 HR
  go_wp2_with fail
  go_loopw [5] (fun s5 wr => ∃ (j : Nat) (S : St), 64 * j ≤ al.length ∧ s5 = .int .i64 (64 * (j : Int)) ∧ Hid (G10 w S wr) ∧ Hid (foldB keysL I al = foldB keysL S (al.drop (64 * j)))) (fun s5 _ => al.length - (intOf s5).toNat)
  case atStart => exact ⟨0, I, by omega, rfl, HG1, rfl⟩
  case round =>
    obtain ⟨j, S, hj, rfl, HG, HF⟩ := hrel
    clear HG1
    by_cases hlt : 64 * j + 64 ≤ al.length
    · obtain ⟨a, b, c, d, e, f, g, h⟩ := S
      have s0 : wr.cell? ⟨w.heap.size, 0, none⟩ = some (.int .u32 a) := by rw [cell_of_row _ _ _ _ _ _ HG.out.hg]; rfl
      have s1 : wr.cell? ⟨w.heap.size, 1, none⟩ = some (.int .u32 b) := by rw [cell_of_row _ _ _ _ _ _ HG.out.hg]; rfl
      have s2 : wr.cell? ⟨w.heap.size, 2, none⟩ = some (.int .u32 c) := by rw [cell_of_row _ _ _ _ _ _ HG.out.hg]; rfl
      have s3 : wr.cell? ⟨w.heap.size, 3, none⟩ = some (.int .u32 d) := by rw [cell_of_row _ _ _ _ _ _ HG.out.hg]; rfl
      have s4 : wr.cell? ⟨w.heap.size, 4, none⟩ = some (.int .u32 e) := by rw [cell_of_row _ _ _ _ _ _ HG.out.hg]; rfl
      have s5 : wr.cell? ⟨w.heap.size, 5, none⟩ = some (.int .u32 f) := by rw [cell_of_row _ _ _ _ _ _ HG.out.hg]; rfl
      have s6 : wr.cell? ⟨w.heap.size, 6, none⟩ = some (.int .u32 g) := by rw [cell_of_row _ _ _ _ _ _ HG.out.hg]; rfl
      have s7 : wr.cell? ⟨w.heap.size, 7, none⟩ = some (.int .u32 h) := by rw [cell_of_row _ _ _ _ _ _ HG.out.hg]; rfl
      obtain ⟨at0, hat⟩ : ∃ at0, at0 = 64 * j := ⟨_, rfl⟩
      have e0 : 64 * (j : Int) = (at0 : Int) := by omega
      obtain ⟨at1, hat1⟩ : ∃ at1, at1 = at0 + 64 := ⟨_, rfl⟩
      have e1 : IntKind.i64.wrap ((at0 : Int) + 64) = (at1 : Int) := by rw [IntKind.wrap_i64]; omega
      have hx := cut64 al at0
      rw [← hat1] at hx
      have n1 : at0 ≤ at1 := by omega
      have n2 : at1 ≤ al.length := by omega
      have n3 : (at0 : Int) ≤ (at1 : Int) := by omega
      have n4 : (at1 : Int) ≤ (al.length : Int) := by omega
      have n5 : ¬ (al.length : Int) < (at1 : Int) := by omega
      have n6 : ¬ (at1 : Int) < (at0 : Int) := by omega
      have hatl : at0 + 64 ≤ al.length := by omega
      have hi1 : (at0 : Int) + 64 ≤ (al.length : Int) := by omega
      have hbl : ((al.drop at0).take 64).length = 64 := by simp; omega
      have HTU : Hid (∀ W, Calls Tryd.prog 20 #[.agg (st8 a b c d e f g h), .string ⟨((al.drop at0).take 64).toArray⟩] W fun x w' => x = .returned (.agg (afterM keysL ⟨a, b, c, d, e, f, g, h⟩ ((al.drop at0).take 64)).cells) ∧ Below W.heap.size W w') :=
        fun W => refTurn20 a b c d e f g h ⟨((al.drop at0).take 64).toArray⟩ hbl W
      have HF2 : Hid (foldB keysL I al = foldB keysL (afterM keysL ⟨a, b, c, d, e, f, g, h⟩ ((al.drop at0).take 64)) (al.drop (64 * (j + 1)))) := by
        unfold Hid
        rw [HF.out, ← hat, foldB_big keysL _ (al.drop at0) (by simp; omega), List.drop_drop, hat]
        rfl
      generalize afterM keysL ⟨a, b, c, d, e, f, g, h⟩ ((al.drop at0).take 64) = T at HTU HF2
      generalize (al.drop at0).take 64 = bk at hx HTU hbl
      have HJ : Hid ((at1 : Int) = 64 * ((j + 1 : Nat) : Int)) := by unfold Hid; omega
      have HJ2 : Hid (64 * (j + 1) ≤ al.length) := by unfold Hid; omega
      have HO8 := Lib.hid (St.oneCell T)
      rw [e0]
      have HA1 := Lib.hid hat1
      clear hat e0 HF hbl hlt hj hat1
      go_wp2_with fail
      go_still_tail 6, (by kernel_rfl)
      change wpList _ _ _ _ _ (World.drew _)
      have hlt2 : w.heap.size < wr.heap.size := block_lt_of_cell s0
      go_wp2_with fail
      refine (HTU.out _).mono ?_
      rintro ee w2 ⟨rfl, hb2⟩
      have hg2 : w2.heap[w.heap.size]? = some (.cells (st8 a b c d e f g h) 38 (0, 0)) := (hb2.block _ hlt2).trans HG.out.hg
      have HG2 := Lib.hid hg2
      have HGN : Hid (G10 w T (w2.setRow w.heap.size T.cells)) := by
        have hB2 : Below w.heap.size w w2 := HG.out.below.drew.trans (hb2.mono (Nat.le_of_lt hlt2))
        exact ⟨setRow_heap _ _ _ _ _ _ hg2, hB2.trans ⟨rfl, rfl, rfl, by simp, fun i hi => setRow_other _ _ _ _ (by omega)⟩⟩
      clear hg2 hb2 HTU HG s0 s1 s2 s3 s4 s5 s6 s7 hx
      go_wp2_with (refine wpList_store_row rfl 38 _ _ rfl w.heap.size T.cells rfl rfl 38 _ HG2.out (by exact HI38.out) (by rfl) HO8.out ?_)
      exact ⟨⟨j + 1, T, HJ2.out, by rw [HJ.out], HGN, HF2⟩, by have := HA1.out; simp [intOf]; omega⟩
    · have hdr : al.drop (64 * j) = [] := List.drop_of_length_le (by omega)
      have HRS : Hid (S.list.flatMap by4 = R) := by
        unfold Hid
        rw [← HR.out, HF.out, hdr, foldB_small _ _ [] (by simp)]
      have hsl : S.list.length = 8 := rfl
      have hcell : ∀ i, i < 8 → ∀ W : World, W.heap[w.heap.size]? = some (.cells S.cells 38 (0, 0)) → W.cell? ⟨w.heap.size, i, none⟩ = some (.int .u32 (S.list.getD i 0)) := by
        intro i hi W hW
        have hc : S.cells = (wordsV S.list).toArray := rfl
        rw [hc] at hW
        exact cell_row hW (by simp [wordsV, hsl, hi])
      have HCL := Lib.hid hcell
      have hnlt : ¬ 64 * (j : Int) + 64 ≤ (al.length : Int) := by omega
      clear hdr HF hlt hcell HR
      have hG := HG.out.hg
      have HB := Lib.hid HG.out.below
      have HGG := Lib.hid hG
      clear hG HG
      generalize S.cells = sc at HCL HGG
      generalize S.list = L at HRS hsl HCL
      go_wp2
      go_loopw [6, 7] (fun s6 s7 wr => ∃ i : Nat, i ≤ 8 ∧ s7 = .int .i64 i ∧ s6 = .string ⟨((L.take i).flatMap by4).toArray⟩ ∧ Hid (wr.heap[w.heap.size]? = some (.cells sc 38 (0, 0))) ∧ Hid (Below w.heap.size w wr)) (fun _ s7 _ => 8 - (intOf s7).toNat)
      case atStart => exact ⟨0, by omega, rfl, rfl, HGG, HB⟩
      case round =>
        obtain ⟨i, hi, rfl, hs6, HGG, HB⟩ := hrel
        by_cases hlt8 : i < 8
        · have bi : (i : Int) < 8 := by omega
          have cx := HCL.out i hlt8 wr HGG.out
          have hN := list_take_succ L by4 i (by omega)
          have hq : ((L.take i).flatMap by4).length ≤ 32 := by rw [by4_length, List.length_take]; omega
          generalize hl0 : (L.take i).flatMap by4 = l0 at hs6 hN hq
          generalize L.getD i 0 = x at cx hN
          have hcat := cat_str l0 (by4 x) _ hN.symm
          generalize hl2 : (L.take (i + 1)).flatMap by4 = l2 at hcat
          have HL2 := Lib.hid hl2
          have HBY := Lib.hid (bytes21 x)
          have hq4 : (by4 x).length = 4 := rfl
          have hq5 : (by4 x).length ≤ 4 := by omega
          generalize by4 x = bx at hcat HBY hq5
          subst hs6
          have hlt2 : w.heap.size < wr.heap.size := block_lt_of_cell cx
          clear hN hl0 hl2 hq4
          go_wp2_with fail
          refine (HBY.out _).mono ?_
          rintro ee w2 ⟨rfl, hb2⟩
          have HG2 : Hid (w2.heap[w.heap.size]? = some (.cells sc 38 (0, 0))) := (hb2.block _ hlt2).trans HGG.out
          have HB2 : Hid (Below w.heap.size w w2) := HB.out.trans (hb2.mono (Nat.le_of_lt hlt2))
          clear hb2 HGG HB cx HBY
          go_wp2
          exact ⟨⟨i + 1, by omega, by go_num, by rw [HL2.out], HG2, HB2⟩, by simp [intOf]; omega⟩
        · have hi8 : i = 8 := by omega
          have ht : L.take 8 = L := List.take_of_length_le (by omega)
          rw [hi8, ht, HRS.out] at hs6
          subst hs6
          clear hi8 ht
          go_wp2
          go_ret
          exact ⟨rfl, HB.out⟩
end Go.Proofs.YtpabggcjmaobhaaDoor
