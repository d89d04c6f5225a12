/-
  The state of DrumStays: a drum, what was sure, what was written. No condition.
-/
import Derived.Test.YtikbkeckkdkkbaaTC
namespace Go.Proofs.Ytikbkeckkdkkbaa
open Go.RowKit

def dW (S : List ByteArray) (W : List (Nat × ByteArray)) : D := ⟨S, W, -1, false⟩
theorem dW_in (S : List ByteArray) (W : List (Nat × ByteArray)) (k : Nat) (s : ByteArray) (h6 : S.length = 6) (hk : k < 6) (hs : s.size = 64) : writeE (dW S W) (k : Int) s = 0 ∧ writeD (dW S W) (k : Int) s = dW S (W ++ [(k, s)]) := by
  have hok : writeOk (dW S W) (k : Int) s = true := by
    unfold writeOk
    rw [Bool.and_eq_true, hasB_iff]
    exact ⟨⟨by omega, by show (k : Int) < (S.length : Int); omega⟩, by simpa using hs⟩
  have hg : (burn (dW S W)).gone = false := by simp [burn, dW]
  refine ⟨by unfold writeE; rw [if_pos hok, if_neg (by rw [hg]; exact Bool.false_ne_true)], ?_⟩
  unfold writeD
  rw [if_pos hok, if_neg (by rw [hg]; exact Bool.false_ne_true)]
  simp [burn, dW]
theorem dW_out (S : List ByteArray) (W : List (Nat × ByteArray)) (k : Int) (s : ByteArray) (h6 : S.length = 6) (hk : ¬ (0 ≤ k ∧ k < 6)) : writeE (dW S W) k s = 2 ∧ writeD (dW S W) k s = dW S W := by
  have hok : writeOk (dW S W) k s = false := by
    unfold writeOk
    rw [Bool.and_eq_false_iff]
    left
    cases h : hasB (dW S W) k with
    | false => rfl
    | true =>
      have := hasB_iff.1 h
      exact absurd ⟨this.1, by have h2 : k < (S.length : Int) := this.2; omega⟩ hk
  simp [writeE, writeD, hok]
theorem dW_settle (S : List ByteArray) (W : List (Nat × ByteArray)) : settleE (dW S W) = 0 ∧ settleD (dW S W) = ⟨ap allF S W W.length, [], -1, false⟩ := by simp [settleE, settleD, dW, burn]
theorem read_plain (S : List ByteArray) (i : Nat) (hi : i < S.length) : readS ⟨S, [], -1, false⟩ (i : Int) = S.getD i ByteArray.empty ∧ readE ⟨S, [], -1, false⟩ (i : Int) = 0 ∧ sureS ⟨S, [], -1, false⟩ (i : Int) = S.getD i ByteArray.empty := by
  have hb : hasB ⟨S, [], -1, false⟩ (i : Int) = true := hasB_iff.2 ⟨by omega, by show (i : Int) < (S.length : Int); omega⟩
  simp [readS, readE, sureS, hb, sh]
theorem sure_dW (S : List ByteArray) (W : List (Nat × ByteArray)) (i : Nat) (hi : i < S.length) : sureS (dW S W) (i : Int) = S.getD i ByteArray.empty := by
  have hb : hasB (dW S W) (i : Int) = true := hasB_iff.2 ⟨by omega, by show (i : Int) < (S.length : Int); omega⟩
  unfold sureS
  rw [if_pos hb]
  simp [dW]

structure St (w0 w : World) (b A1 A2 : Nat) (su : Nat → Value) (d : D) (W : List (Nat × ByteArray)) : Prop where
  ex : ∃ F G vs, PAt w F b d ∧ Wr w G A2 W vs ∧ (∀ k, F k → ¬ G k) ∧ ¬ F A1 ∧ ¬ G A1 ∧ (∀ k, F k → w0.heap.size ≤ k) ∧ (∀ k, G k → w0.heap.size ≤ k)
  su : w.heap[A1]? = some (.cells (rowF su) 42 (0, 0))
  a1 : w0.heap.size ≤ A1
  old : Below w0.heap.size w0 w
theorem St.lt {w0 w : World} {b A1 A2 : Nat} {su : Nat → Value} {d : D} {W : List (Nat × ByteArray)} (h : St w0 w b A1 A2 su d W) : A1 < w.heap.size := (Array.getElem?_eq_some_iff.1 h.su).1
theorem St.below {w0 w w' : World} {b A1 A2 : Nat} {su : Nat → Value} {d : D} {W : List (Nat × ByteArray)} (h : St w0 w b A1 A2 su d W) (hb : Below w.heap.size w w') : St w0 w' b A1 A2 su d W := by
  obtain ⟨F, G, vs, h1, h2, h3, h4, h5, h6, h7⟩ := h.ex
  exact ⟨⟨F, G, vs, h1.below hb, h2.below hb, h3, h4, h5, h6, h7⟩, (hb.block _ h.lt).trans h.su, h.a1, h.old.trans (hb.mono h.old.size)⟩
theorem St.cell {w0 w : World} {b A1 A2 : Nat} {su : Nat → Value} {d : D} {W : List (Nat × ByteArray)} (h : St w0 w b A1 A2 su d W) (i : Nat) (hi : i < 6) : w.cell? ⟨A1, i, none⟩ = some (su i) := cell_row h.su (rowF_get _ _ hi)
theorem St.fr {w0 w : World} {b A1 A2 : Nat} {su : Nat → Value} {d : D} {W : List (Nat × ByteArray)} (h : St w0 w b A1 A2 su d W) (i : Nat) : w.frozen? ⟨A1, i, none⟩ = false := frozen_of_row w A1 i _ _ h.su
theorem St.set {w0 w : World} {b A1 A2 : Nat} {su : Nat → Value} {d : D} {W : List (Nat × ByteArray)} (h : St w0 w b A1 A2 su d W) (i : Nat) (v : Value) : St w0 (w.setCell ⟨A1, i, none⟩ v) b A1 A2 (upd su i v) d W := by
  obtain ⟨F, G, vs, h1, h2, h3, h4, h5, h6, h7⟩ := h.ex
  have hT : Turn (fun k => k = A1) w (w.setCell ⟨A1, i, none⟩ v) := (Turn.refl _ w).setCell _ _ (.inl rfl)
  refine ⟨⟨F, G, vs, h1.keep hT (fun k hk e => h4 (e ▸ hk)), h2.keep hT (fun k hk e => h5 (e ▸ hk)), h3, h4, h5, h6, h7⟩, ?_, h.a1, h.old.setCell h.a1 _⟩
  rw [heap_setCell_same _ _ _ _ _ _ h.su, rowF_set]
theorem St.write {w0 w : World} {b A1 A2 : Nat} {su : Nat → Value} {d : D} {W : List (Nat × ByteArray)} (h : St w0 w b A1 A2 su d W) (i : Int) (s : ByteArray) (hw : d.W.length ≤ 1000000) :
    Calls Try.prog 18 #[.pointer (some ⟨b, 0, none⟩), .int .i64 i, .string s] w fun e w' => e = .returned (.int .i64 (writeE d i s)) ∧ St w0 w' b A1 A2 su (writeD d i s) W := by
  obtain ⟨F, G, vs, h1, h2, h3, h4, h5, h6, h7⟩ := h.ex
  refine (write18 h1 i s hw).mono fun e w' ⟨he, hP, hT⟩ => ⟨he, ⟨⟨_, G, vs, hP, h2.keep hT (fun k hk hk' => h3 k hk' hk), fun k hk hk2 => ?_, fun hk => ?_, h5, fun k hk => ?_, h7⟩, (hT.block _ h.lt h4).trans h.su, h.a1, h.old.trans (hT.below _ h.old.size h6)⟩⟩
  · rcases hk with hk | hk
    · exact h3 k hk hk2
    · have := h2.lt k hk2; omega
  · rcases hk with hk | hk
    · exact h4 hk
    · have := h.lt; omega
  · rcases hk with hk | hk
    · exact h6 k hk
    · exact Nat.le_trans h.old.size hk.1
theorem St.sure {w0 w : World} {b A1 A2 : Nat} {su : Nat → Value} {d : D} {W : List (Nat × ByteArray)} (h : St w0 w b A1 A2 su d W) (i : Int) :
    Calls Try.prog 17 #[.pointer (some ⟨b, 0, none⟩), .int .i64 i] w fun e w' => e = .returned (.string (sureS d i)) ∧ Below w.heap.size w w' := by
  obtain ⟨F, G, vs, h1, _⟩ := h.ex
  exact sure17 h1 i
theorem St.loose {w0 w : World} {b A1 A2 : Nat} {su : Nat → Value} {d : D} {W : List (Nat × ByteArray)} (h : St w0 w b A1 A2 su d W) :
    Calls Try.prog 20 #[.pointer (some ⟨b, 0, none⟩)] w fun e w' => e = .returned (.int .i64 (d.W.length : Int)) ∧ w = w' := by
  obtain ⟨F, G, vs, h1, _⟩ := h.ex
  exact loose20 h1

/-- The two arrays made, behind a drum of its own. -/
theorem St.made {w0 w : World} {b : Nat} {d : D} (h : PN w0 w b d) : St w0 ((w.alloc (.cells (rowF fun _ => .string ByteArray.empty) 42)).alloc (.cells (rowF fun _ => .slice none 0 0) 44)) b w.heap.size (w.heap.size + 1) (fun _ => .string ByteArray.empty) d [] := by
  obtain ⟨F, hP, hF, hB⟩ := h
  have hb : Below w.heap.size w ((w.alloc (.cells (rowF fun _ => .string ByteArray.empty) 42)).alloc (.cells (rowF fun _ => .slice none 0 0) 44)) := ((Below.refl _ _).alloc (Nat.le_refl _) _).alloc (by simp) _
  refine ⟨⟨F, fun k => k = w.heap.size + 1, fun _ => .slice none 0 0, hP.below hb, ⟨?_, fun i _ => World.ownsRow_nil _ _ _ _, fun _ _ => by simp [Value.ownBlock], fun _ _ _ _ _ k hk => by simp [Value.ownBlock] at hk, rfl, fun _ _ k hk => by simp [Value.ownBlock] at hk, fun k hk => by rw [hk]; simp⟩, fun k hk e => ?_, fun hk => ?_, fun e => by omega, hF, fun k hk => by rw [hk]; exact Nat.le_succ_of_le hB.size⟩, ?_, hB.size, hB.trans (hb.mono hB.size)⟩
  · have := heap_alloc_new (w.alloc (.cells (rowF fun _ => .string ByteArray.empty) 42)) (.cells (rowF fun _ => .slice none 0 0) 44)
    simpa using this
  · have := hP.lt k hk; omega
  · have := hP.lt _ hk; omega
  · rw [Below.heap_alloc _ _ _ (by simp)]
    exact heap_alloc_new _ _

/-- One more written. -/
theorem St.push {w0 w w4 : World} {b A1 A2 : Nat} {su : Nat → Value} {d : D} {W : List (Nat × ByteArray)} {F G : Nat → Prop} {vs : Nat → Value} (h : St w0 w b A1 A2 su d W)
    (h1 : PAt w F b d) (h2 : Wr w G A2 W vs) (h3 : ∀ k, F k → ¬ G k) (h4 : ¬ F A1) (h5 : ¬ G A1) (h6 : ∀ k, F k → w0.heap.size ≤ k) (h7 : ∀ k, G k → w0.heap.size ≤ k)
    {i : Nat} (hi : i < 6) {s : ByteArray} {g' cap : Nat} (X : Obj) (ho : w4.ownsRow 0 9 1 (.slice (some ⟨g', 0, none⟩) ((wl W i).length + 1) cap) ((wl W i).length + 1) (strs (wl W i) ++ [.string s])) (hg : (w.alloc X).grownBy w4 (vs i).ownBlock) (hat : (vs i).ownBlock = some g' ∨ g' = (w.alloc X).heap.size) (hlt : g' < w4.heap.size) :
    St w0 (w4.setCell ⟨A2, i, none⟩ (.slice (some ⟨g', 0, none⟩) ((wl W i).length + 1) cap)) b A1 A2 su d (W ++ [(i, s)]) := by
  obtain ⟨hW, hT⟩ := h2.more hi X ho hg hat hlt
  refine ⟨⟨F, _, _, h1.keep hT h3, hW, fun k hk hk2 => ?_, h4, fun hk => ?_, h6, fun k hk => ?_⟩, (hT.block _ h.lt h5).trans h.su, h.a1, h.old.trans (hT.below _ h.old.size h7)⟩
  · rcases hk2 with hk2 | hk2
    · exact h3 k hk hk2
    · have := h1.lt k hk; omega
  · rcases hk with hk | hk
    · exact h5 hk
    · have := h.lt; omega
  · rcases hk with hk | hk
    · exact h7 k hk
    · exact Nat.le_trans h.old.size hk.1

/-- Behind the crash: both drums, and the two arrays. -/
structure Fi (w0 w : World) (b c A1 A2 : Nat) (su : Nat → Value) (dc da : D) (W : List (Nat × ByteArray)) : Prop where
  ex : ∃ F H G vs, PAt w F b dc ∧ PAt w H c da ∧ Wr w G A2 W vs
  su : w.heap[A1]? = some (.cells (rowF su) 42 (0, 0))
  old : Below w0.heap.size w0 w
theorem Fi.below {w0 w w' : World} {b c A1 A2 : Nat} {su : Nat → Value} {dc da : D} {W : List (Nat × ByteArray)} (h : Fi w0 w b c A1 A2 su dc da W) (hb : Below w.heap.size w w') : Fi w0 w' b c A1 A2 su dc da W := by
  obtain ⟨F, H, G, vs, h1, h2, h3⟩ := h.ex
  exact ⟨⟨F, H, G, vs, h1.below hb, h2.below hb, h3.below hb⟩, (hb.block _ (Array.getElem?_eq_some_iff.1 h.su).1).trans h.su, h.old.trans (hb.mono h.old.size)⟩
theorem St.ends {w0 w : World} {b A1 A2 : Nat} {su : Nat → Value} {d : D} {W : List (Nat × ByteArray)} (h : St w0 w b A1 A2 su d W) (hw : d.W.length ≤ 1000000) (keep : List Int) (lv : Value) (hl : IntsAt w0 w0.heap.size lv keep) (hll : keep.length ≤ 1000000) :
    Calls Try.prog 11 #[.pointer (some ⟨b, 0, none⟩)] w fun e w1 => ∃ c, e = .returned (.pointer (some ⟨c, 0, none⟩)) ∧
      Calls Try.prog 21 #[.pointer (some ⟨c, 0, none⟩)] w1 fun e w2 => e = .returned (.int .i64 (settleE d)) ∧
        Calls Try.prog 16 #[.pointer (some ⟨b, 0, none⟩), lv] w2 fun e w3 => e = .returned (.int .i64 0) ∧ Fi w0 w3 b c A1 A2 su (crashD d keep) (settleD d) W := by
  obtain ⟨F, G, vs, h1, h2, h3, h4, h5, h6, h7⟩ := h.ex
  refine (copy11 h1 hw).mono fun e w1 ⟨he, hC, hB1⟩ => ⟨_, he, ?_⟩
  have hlt := h.lt
  refine (settle21 hC hw).mono fun e w2 ⟨he2, hC2, hT2⟩ => ⟨he2, ?_⟩
  have hF2 : ∀ k, F k → ¬ New w w1 k := fun k hk hn => by have := h1.lt k hk; have := hn.1; omega
  have hG2 : ∀ k, G k → ¬ New w w1 k := fun k hk hn => by have := h2.lt k hk; have := hn.1; omega
  have hP2 := (h1.below hB1).keep hT2 hF2
  have hW2 := (h2.below hB1).keep hT2 hG2
  have hA2 : w2.heap[A1]? = some (.cells (rowF su) 42 (0, 0)) := (hT2.block _ (Nat.lt_of_lt_of_le hlt hB1.size) (fun hn => by have := hn.1; omega)).trans ((hB1.block _ hlt).trans h.su)
  have hold1 := h.old.trans (hB1.mono h.old.size)
  have hold2 : Below w0.heap.size w0 w2 := hold1.trans (hT2.below _ hold1.size (fun k hk => Nat.le_trans h.old.size hk.1))
  refine (crash16 hP2 hw keep lv ((hl.below hold2).more hold2.size) hll).mono fun e w3 ⟨he3, hP3, hT3⟩ => ⟨he3, ⟨F, New w w1, G, vs, hP3, hC2.keep hT3 (fun k hk hk' => hF2 k hk' hk), hW2.keep hT3 (fun k hk hk' => h3 k hk' hk)⟩, (hT3.block _ (Array.getElem?_eq_some_iff.1 hA2).1 h4).trans hA2, hold2.trans (hT3.below _ hold2.size h6)⟩
end Go.Proofs.Ytikbkeckkdkkbaa
