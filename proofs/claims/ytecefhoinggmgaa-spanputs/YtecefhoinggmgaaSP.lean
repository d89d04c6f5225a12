/-
  The contract of span.asPieces. No condition.
-/
import Derived.Test.YtecefhoinggmgaaSK
import Derived.Laws.MakeOwn
namespace Go.Proofs.Ytecefhoinggmgaa
open Go.RowKit

def asPc (r : Row) : Pc := (r.1, r.2.1, vz, r.2.2)

theorem Try.info44 : (Try.prog.info? 44).map (fun i => (i.zero, i.size, i.bytes)) = some (some (.agg #[.int .i64 0, .int .i64 0, .int .i64 0, .int .i64 0, .string ⟨#[]⟩, .int .i64 0, .int .i64 0, .string ⟨#[]⟩]), 8, 80) := by kernel_rfl

/-- A block of pieces. -/
def PBlk (w : World) (g n : Nat) : Prop := ∃ cur, w.heap[g]? = some (.cells cur 44 (0, 0)) ∧ cur.size = n * 8
theorem PBlk.lt {w : World} {g n : Nat} (h : PBlk w g n) : g < w.heap.size := by obtain ⟨c, h, _⟩ := h; exact (Array.getElem?_eq_some_iff.1 h).1
theorem PBlk.set {w : World} {g n : Nat} (h : PBlk w g n) (o : Nat) (u : Value) : PBlk (w.setCell ⟨g, o, none⟩ u) g n := by
  obtain ⟨c, h, hs⟩ := h
  exact ⟨c.setIfInBounds o u, by simp [World.setCell, Array.getElem?_modify, h], by simpa using hs⟩
theorem PBlk.alloc {w : World} {g n : Nat} (h : PBlk w g n) (o : Obj) : PBlk (w.alloc o) g n := by
  have hl := h.lt
  obtain ⟨c, h, hs⟩ := h
  exact ⟨c, (Below.heap_alloc w o g hl).trans h, hs⟩
theorem PBlk.has {w : World} {g n : Nat} (h : PBlk w g n) (o : Nat) (ho : o < n * 8) : ∃ u, w.cell? ⟨g, o, none⟩ = some u := by
  obtain ⟨c, h, hs⟩ := h
  exact ⟨c[o]'(by omega), by simp [World.cell?, h, show o < c.size by omega]⟩
theorem PBlk.frozen {w : World} {g n : Nat} (h : PBlk w g n) (o : Nat) : w.frozen? ⟨g, o, none⟩ = false := by
  obtain ⟨c, h, hs⟩ := h
  simp [World.frozen?, h]
theorem PBlk.same {w : World} {g n : Nat} (h : PBlk w g n) (o : Nat) (ho : o < n * 8) (u : Value) : (w.setCell ⟨g, o, none⟩ u).cell? ⟨g, o, none⟩ = some u := by
  obtain ⟨c, h, hs⟩ := h
  simp [World.cell?, World.setCell, Array.getElem?_modify, h, show o < c.size by omega]
theorem cell_set_other (w : World) (g o o' : Nat) (u : Value) (h : o' ≠ o) : (w.setCell ⟨g, o, none⟩ u).cell? ⟨g, o', none⟩ = w.cell? ⟨g, o', none⟩ := by
  unfold World.cell? World.setCell
  simp only [Array.getElem?_modify, if_true]
  cases w.heap[g]? with
  | none => rfl
  | some ob => cases ob <;> simp [Ne.symm h]

/-- A piece stored. -/
def setPc (w : World) (g o : Nat) (f t hk hn : Int) (hs : ByteArray) (k n : Int) (s : ByteArray) : World :=
  (((((((w.setCell ⟨g, o, none⟩ (.int .i64 f)).setCell ⟨g, o + 1, none⟩ (.int .i64 t)).setCell ⟨g, o + 2, none⟩ (.int .i64 hk)).setCell ⟨g, o + 3, none⟩ (.int .i64 hn)).setCell ⟨g, o + 4, none⟩ (.string hs)).setCell ⟨g, o + 5, none⟩ (.int .i64 k)).setCell ⟨g, o + 6, none⟩ (.int .i64 n)).setCell ⟨g, o + 7, none⟩ (.string s)

theorem setPc_other (w : World) (g o : Nat) (f t hk hn : Int) (hs : ByteArray) (k n : Int) (s : ByteArray) (o' : Nat) (h : o' < o ∨ o + 8 ≤ o') : (setPc w g o f t hk hn hs k n s).cell? ⟨g, o', none⟩ = w.cell? ⟨g, o', none⟩ := by
  unfold setPc
  rw [cell_set_other _ _ _ _ _ (by omega), cell_set_other _ _ _ _ _ (by omega), cell_set_other _ _ _ _ _ (by omega), cell_set_other _ _ _ _ _ (by omega), cell_set_other _ _ _ _ _ (by omega), cell_set_other _ _ _ _ _ (by omega), cell_set_other _ _ _ _ _ (by omega), cell_set_other _ _ _ _ _ (by omega)]

theorem setPc_blk {w : World} {g n : Nat} (h : PBlk w g n) (o : Nat) (ho : o + 8 ≤ n * 8) (f t hk hn : Int) (hs : ByteArray) (k m : Int) (s : ByteArray) :
    PBlk (setPc w g o f t hk hn hs k m s) g n ∧ PcAt (setPc w g o f t hk hn hs k m s) g o (f, t, (hk, hn, hs), (k, m, s)) := by
  unfold setPc
  have b1 := h.set o (.int .i64 f)
  have b2 := b1.set (o + 1) (.int .i64 t)
  have b3 := b2.set (o + 2) (.int .i64 hk)
  have b4 := b3.set (o + 3) (.int .i64 hn)
  have b5 := b4.set (o + 4) (.string hs)
  have b6 := b5.set (o + 5) (.int .i64 k)
  have b7 := b6.set (o + 6) (.int .i64 m)
  refine ⟨b7.set (o + 7) (.string s), ⟨?_, ?_, ?_, ?_, ?_, ?_, ?_, ?_⟩⟩
  · rw [cell_set_other _ _ _ _ _ (by omega), cell_set_other _ _ _ _ _ (by omega), cell_set_other _ _ _ _ _ (by omega), cell_set_other _ _ _ _ _ (by omega), cell_set_other _ _ _ _ _ (by omega), cell_set_other _ _ _ _ _ (by omega), cell_set_other _ _ _ _ _ (by omega), h.same _ (by omega)]
  · rw [cell_set_other _ _ _ _ _ (by omega), cell_set_other _ _ _ _ _ (by omega), cell_set_other _ _ _ _ _ (by omega), cell_set_other _ _ _ _ _ (by omega), cell_set_other _ _ _ _ _ (by omega), cell_set_other _ _ _ _ _ (by omega), b1.same _ (by omega)]
  · rw [cell_set_other _ _ _ _ _ (by omega), cell_set_other _ _ _ _ _ (by omega), cell_set_other _ _ _ _ _ (by omega), cell_set_other _ _ _ _ _ (by omega), cell_set_other _ _ _ _ _ (by omega), b2.same _ (by omega)]
  · rw [cell_set_other _ _ _ _ _ (by omega), cell_set_other _ _ _ _ _ (by omega), cell_set_other _ _ _ _ _ (by omega), cell_set_other _ _ _ _ _ (by omega), b3.same _ (by omega)]
  · rw [cell_set_other _ _ _ _ _ (by omega), cell_set_other _ _ _ _ _ (by omega), cell_set_other _ _ _ _ _ (by omega), b4.same _ (by omega)]
  · rw [cell_set_other _ _ _ _ _ (by omega), cell_set_other _ _ _ _ _ (by omega), b5.same _ (by omega)]
  · rw [cell_set_other _ _ _ _ _ (by omega), b6.same _ (by omega)]
  · rw [b7.same _ (by omega)]

theorem below_setPc {B : Nat} {a w : World} (h : Below B a w) {g : Nat} (hg : B ≤ g) (o : Nat) (f t hk hn : Int) (hs : ByteArray) (k n : Int) (s : ByteArray) : Below B a (setPc w g o f t hk hn hs k n s) :=
  (((((((h.setCell hg _).setCell hg _).setCell hg _).setCell hg _).setCell hg _).setCell hg _).setCell hg _).setCell hg _

set_option maxHeartbeats 1000000 in
theorem asPieces45 (l : List Row) (lv : Value) (w : World) (hl : RowsAt w w.heap.size lv l) (hn : l.length ≤ 64) :
    Calls Try.prog 45 #[lv] w fun e w' => ∃ v, e = .returned v ∧ PcsAt w' w'.heap.size v (l.map asPc) ∧ (∀ A n c, v = .slice A n c → ∀ b o, A = some ⟨b, o, none⟩ → w.heap.size ≤ b) ∧ Below w.heap.size w w' := by
  obtain ⟨i0, hi, hz0, hz1, hz2⟩ := info_parts Try.info44
  obtain ⟨A, cap, rfl, h1, h2, h3⟩ := hl
  unfold maxLen at h2
  have hmk := fun W : World => run_make (P := Try.prog) W 42 44 i0 _ Try.underlying42 hi hz0 .i64 .i64 (l.length : Int) (l.length : Int) (by omega) (Int.le_refl _) (by rw [hz2]; omega) (by omega)
  simp only [Int.toNat_natCast, hz1] at hmk
  have H3 := Lib.hid h3
  clear h3
  obtain ⟨cs, hcs⟩ : ∃ cs, madeCells (Value.agg #[.int .i64 0, .int .i64 0, .int .i64 0, .int .i64 0, .string ⟨#[]⟩, .int .i64 0, .int .i64 0, .string ⟨#[]⟩]).cells (l.length * 8) = cs := ⟨_, rfl⟩
  have hsz : cs.size = l.length * 8 := by rw [← hcs]; exact size_madeCells _ _
  rw [hcs] at hmk
  have HSZ := Lib.hid hsz
  clear hcs hsz
  go_enter Try.func45, Try.ntmps45
  go_wp2
  go_loopw [11] (fun i wr => ∃ k : Nat, k ≤ l.length ∧ i = .int .i64 k ∧ PBlk wr w.heap.size l.length ∧ (∀ j (hj : j < l.length), j < k → PcAt wr w.heap.size (j * 8) (asPc l[j])) ∧ Below w.heap.size w wr) (fun i _ => l.length - (intOf i).toNat)
  case atStart => exact ⟨0, Nat.zero_le _, rfl, ⟨cs, heap_alloc_new w _, HSZ.out⟩, fun j _ h => by omega, (Below.refl _ _).alloc (Nat.le_refl _) _⟩
  case round =>
    obtain ⟨k, hk, rfl, hblk, hpc, hbel⟩ := hrel
    have HB := Lib.hid hblk
    have HP := Lib.hid hpc
    have HE := Lib.hid hbel
    by_cases hlt : k < l.length
    · obtain ⟨b, o, rfl, hb, hr⟩ := H3.out (by omega)
      have hrr := (hr k hlt).below hbel hb
      have hbl : b < wr.heap.size := Nat.lt_of_lt_of_le hb hbel.size
      have hgl := hblk.lt
      have HAS : Hid (asPc l[k] = ((l[k]).1, (l[k]).2.1, vz, (l[k]).2.2)) := rfl
      generalize hrk : l[k] = r at hrr HAS
      have HRK := Lib.hid hrk
      clear hrk
      obtain ⟨rf, re, rk, rn, rs⟩ := r
      obtain ⟨c0, c1, c2, c3, c4⟩ := hrr
      simp only at c0 c1 c2 c3 c4
      have hbn : ¬ b = w.heap.size := by omega
      obtain ⟨u0, e0⟩ := hblk.has (k * 8) (by omega)
      obtain ⟨u1, e1⟩ := hblk.has (k * 8 + 1) (by omega)
      obtain ⟨u2, e2⟩ := hblk.has (k * 8 + 2) (by omega)
      obtain ⟨u3, e3⟩ := hblk.has (k * 8 + 3) (by omega)
      obtain ⟨u4, e4⟩ := hblk.has (k * 8 + 4) (by omega)
      obtain ⟨u5, e5⟩ := hblk.has (k * 8 + 5) (by omega)
      obtain ⟨u6, e6⟩ := hblk.has (k * 8 + 6) (by omega)
      obtain ⟨u7, e7⟩ := hblk.has (k * 8 + 7) (by omega)
      have hfz := hblk.frozen
      clear hblk hpc hbel hr hmk
      obtain ⟨hb', hp'⟩ := setPc_blk HB.out (k * 8) (by omega) rf re 0 0 ⟨#[]⟩ rk rn rs
      have hlt' := hb'.lt
      have HR : Hid (PBlk ((setPc wr w.heap.size (k * 8) rf re 0 0 ⟨#[]⟩ rk rn rs).alloc (.cells #[.int .i64 rf, .int .i64 re, .int .i64 rk, .int .i64 rn, .string rs] 52)) w.heap.size l.length ∧
          (∀ j (hj : j < l.length), j < k + 1 → PcAt ((setPc wr w.heap.size (k * 8) rf re 0 0 ⟨#[]⟩ rk rn rs).alloc (.cells #[.int .i64 rf, .int .i64 re, .int .i64 rk, .int .i64 rn, .string rs] 52)) w.heap.size (j * 8) (asPc l[j])) ∧
          Below w.heap.size w ((setPc wr w.heap.size (k * 8) rf re 0 0 ⟨#[]⟩ rk rn rs).alloc (.cells #[.int .i64 rf, .int .i64 re, .int .i64 rk, .int .i64 rn, .string rs] 52))) := by
        have hbb : Below w.heap.size w (setPc wr w.heap.size (k * 8) rf re 0 0 ⟨#[]⟩ rk rn rs) := below_setPc HE.out (Nat.le_refl _) _ _ _ _ _ _ _ _ _
        refine ⟨hb'.alloc _, fun j hj hjk => ?_, hbb.alloc hbb.size _⟩
        have hal : ∀ o, ((setPc wr w.heap.size (k * 8) rf re 0 0 ⟨#[]⟩ rk rn rs).alloc (.cells #[.int .i64 rf, .int .i64 re, .int .i64 rk, .int .i64 rn, .string rs] 52)).cell? ⟨w.heap.size, o, none⟩ = (setPc wr w.heap.size (k * 8) rf re 0 0 ⟨#[]⟩ rk rn rs).cell? ⟨w.heap.size, o, none⟩ := fun o => World.cell?_alloc_lt _ _ _ hlt'
        by_cases hjk' : j = k
        · subst hjk'
          rw [HRK.out]
          exact hp'.keep hal
        · have hq := HP.out j hj (by omega)
          have hso : ∀ o', o' < k * 8 → (setPc wr w.heap.size (k * 8) rf re 0 0 ⟨#[]⟩ rk rn rs).cell? ⟨w.heap.size, o', none⟩ = wr.cell? ⟨w.heap.size, o', none⟩ := fun o' h => setPc_other _ _ _ _ _ _ _ _ _ _ _ o' (.inl h)
          refine PcAt.keep ?_ hal
          exact ⟨(hso _ (by omega)).trans hq.c0, (hso _ (by omega)).trans hq.c1, (hso _ (by omega)).trans hq.c2, (hso _ (by omega)).trans hq.c3, (hso _ (by omega)).trans hq.c4, (hso _ (by omega)).trans hq.c5, (hso _ (by omega)).trans hq.c6, (hso _ (by omega)).trans hq.c7⟩
      clear hb' hp' hlt' HB HP HE HAS HRK
      unfold setPc at HR
      go_wp2
      exact ⟨⟨k + 1, by omega, by go_num, HR.out⟩, by simp [intOf]; omega⟩
    · clear hblk hpc hbel hmk
      have hkk : k = l.length := by omega
      have HF : Hid (PcsAt wr wr.heap.size (.slice (some ⟨w.heap.size, 0, none⟩) l.length l.length) (l.map asPc)) := by
        refine ⟨_, l.length, by simp, by simp, by unfold maxLen; omega, fun _ => ⟨w.heap.size, 0, rfl, HB.out.lt, fun i hi => ?_⟩⟩
        have hi' : i < l.length := by simpa using hi
        have := HP.out i hi' (by omega)
        simpa using this
      clear hkk
      go_wp2
      go_ret
      refine ⟨_, rfl, HF.out, ?_, HE.out⟩
      intro A n c hv b o hA
      injection hv with h1 h2 h3
      subst hA
      injection h1 with h1
      injection h1 with h1 h2
      omega
end Go.Proofs.Ytecefhoinggmgaa
