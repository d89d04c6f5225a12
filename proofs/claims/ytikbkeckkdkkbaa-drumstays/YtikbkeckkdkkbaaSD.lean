/-
  Contract of begun. No condition.
-/
import Derived.Test.YtikbkeckkdkkbaaSC
namespace Go.Proofs.Ytikbkeckkdkkbaa
open Go.RowKit

theorem Both.made {w w1 w2 : World} {b r : Nat} {d : D} (hP : PAt w1 (New w w1) b d) (hB1 : Below w.heap.size w w1) (hR : RAt w2 (New w1 w2) r d) (hB2 : Below w1.heap.size w1 w2) : Both w2 (New w w2) b r d := by
  refine ⟨⟨New w w1, New w1 w2, hP.below hB2, hR, fun k h1 h2 => ?_, fun k hk => .inl ⟨hk.1, Nat.lt_of_lt_of_le hk.2 hB2.size⟩, fun k hk => .inl ⟨Nat.le_trans hB1.size hk.1, hk.2⟩⟩, Turn.refl _ _, fun k hk => hk.2⟩
  have := h1.2
  have := h2.1
  omega
/-- After a step: the footprint, all of it from B on. -/
structure Ev (w0 w : World) (b r : Nat) (d : D) : Prop where
  ex : ∃ F, Both w F b r d ∧ ∀ k, F k → w0.heap.size ≤ k
  old : Below w0.heap.size w0 w
theorem Ev.step {w0 w : World} {b r : Nat} {d : D} (h : Ev w0 w b r d) (a : Ac) (hl : IntsAt w w0.heap.size a.v a.keep) (hll : a.keep.length ≤ 200) (hw : d.W.length ≤ 1000) (htop : a.i ≤ 9223372036854775807) :
    Calls Try.prog 13 #[.pointer (some ⟨b, 0, none⟩), .pointer (some ⟨r, 0, none⟩), .agg #[.int .i64 a.k, .int .i64 a.i, .string a.s, a.v]] w fun e w' => e = .returned (.bool true) ∧ Ev w0 w' b r (stepD d a) := by
  obtain ⟨F, hB, hF⟩ := h.ex
  refine (step13 hB a w0.heap.size h.old.size hF hl hll hw htop).mono fun e w' ⟨he, hB', hT⟩ => ⟨he, ⟨_, hB', fun k hk => ?_⟩, h.old.trans (hT.below _ h.old.size hF)⟩
  rcases hk with hk | hk
  · exact hF k hk
  · exact Nat.le_trans h.old.size hk.1
theorem Ev.pn {w0 w : World} {b r : Nat} {d : D} (h : Ev w0 w b r d) : PN w0 w b d := by
  obtain ⟨F, hB, hF⟩ := h.ex
  obtain ⟨F1, F2, hP, hR, hd, h1, h2⟩ := hB.ex
  refine ⟨F1, hP, fun k hk => ?_, h.old⟩
  rcases h1 k hk with h3 | h3
  · exact hF k h3
  · omega

set_option maxRecDepth 100000 in
set_option maxHeartbeats 1000000 in
theorem begun15 (L : List Ac) (lv : Value) (w : World) (hL : AcsAt w w.heap.size lv L) (hf : fewB L = true) :
    Calls Try.prog 15 #[lv] w fun e w' => ∃ b d, e = .returned (.pointer (some ⟨b, 0, none⟩)) ∧ PN w w' b d ∧ d.S.length = 6 ∧ d.W.length ≤ 150 := by
  have HL := Lib.hid hL
  obtain ⟨a, c, rfl, -⟩ := hL
  have hfew := fewB_iff.1 hf
  have HFEW := Lib.hid hfew.2
  have h150 := hfew.1
  have HN6 : Hid (Calls Try.prog 9 #[.int .i64 6] w fun e w' => e = .returned (.tuple #[.pointer (some ⟨w.heap.size + 1, 0, none⟩), .int .i64 0]) ∧ PAt w' (New w w') (w.heap.size + 1) (newD 6) ∧ Below w.heap.size w w') := new9 6 (by omega) (by omega) w
  have HR6 : Hid (∀ W, Calls Try.prog 10 #[.int .i64 6] W fun e w' => e = .returned (.tuple #[.pointer (some ⟨W.heap.size, 0, none⟩), .int .i64 0]) ∧ RAt w' (New W w') W.heap.size (newD 6) ∧ Below W.heap.size W w') := fun W => refNew10 6 (by omega) (by omega) W
  obtain ⟨n, hn⟩ : ∃ n, L.length = n := ⟨_, rfl⟩
  have HN := Lib.hid hn
  rw [hn] at h150
  rw [hn]
  generalize hb : w.heap.size + 1 = b at HN6
  clear hf hfew hn hb
  go_enter Try.func15, Try.ntmps15
  go_wp2_with fail
  refine HN6.out.mono ?_
  rintro e w1 ⟨rfl, hP, hB1⟩
  have HP := Lib.hid hP
  have HB1 := Lib.hid hB1
  clear hP hB1 HN6
  go_wp2_with fail
  refine (HR6.out _).mono ?_
  rintro e w2 ⟨rfl, hR, hB2⟩
  have HEV : Hid (Ev w w2 b w1.heap.size (newD 6)) := ⟨⟨_, Both.made HP.out HB1.out hR hB2, fun k hk => hk.1⟩, HB1.out.trans (hB2.mono HB1.out.size)⟩
  have HS6 : Hid ((newD 6).S.length = 6 ∧ (newD 6).W.length ≤ 0) := ⟨by simp [newD], by simp [newD]⟩
  generalize newD 6 = d0 at HEV HS6
  generalize w1.heap.size = r at HEV ⊢
  clear hR hB2 HR6 HP HB1
  go_wp2
  go_loopw [7] (fun s7 wr => ∃ (k : Nat) (d : D), k ≤ n ∧ s7 = .int .i64 k ∧ Hid (Ev w wr b r d) ∧ Hid (d.S.length = 6 ∧ d.W.length ≤ k)) (fun s7 _ => n - (intOf s7).toNat)
  case atStart => exact ⟨0, d0, by omega, rfl, HEV, HS6⟩
  case round =>
    obtain ⟨k, d, hk, rfl, HE, HS⟩ := hrel
    by_cases hlt : k < n
    · have hk' : k < L.length := by rw [HN.out]; exact hlt
      obtain ⟨a', c', hv, hcells⟩ := HL.out.below HE.out.old
      injection hv with e1 e2 e3
      subst e1
      obtain ⟨bb, oo, rfl, -, hc⟩ := hcells (by omega)
      have hat := hc k hk'
      have c0 := hat.c0
      have c1 := hat.c1
      have c2 := hat.c2
      have c3 := hat.c3
      have HST := Lib.hid (HE.out.step L[k] hat.ints (HFEW.out _ (List.getElem_mem hk')).2 (by have := HS.out.2; omega) hat.top)
      have HS2 : Hid ((stepD d L[k]).S.length = 6 ∧ (stepD d L[k]).W.length ≤ k + 1) := ⟨by rw [step_len]; exact HS.out.1, by have := step_wlen d L[k]; have := HS.out.2; omega⟩
      generalize stepD d L[k] = d2 at HST HS2
      generalize L[k].k = ak at c0 HST
      generalize L[k].i = ai at c1 HST
      generalize L[k].s = asx at c2 HST
      generalize L[k].v = av at c3 HST
      clear hat hc hcells e2 e3 hk' HS HE
      go_wp2_with fail
      refine HST.out.mono ?_
      rintro e w3 ⟨rfl, hE⟩
      have HE3 := Lib.hid hE
      clear hE HST
      go_wp2
      go_roundw
      case rel => exact ⟨k + 1, d2, by omega, by go_num, HE3, HS2⟩
      case measure => simp [intOf]; omega
    · go_wp2
      go_ret
      exact ⟨b, d, rfl, HE.out.pn, HS.out.1, by have := HS.out.2; omega⟩
end Go.Proofs.Ytikbkeckkdkkbaa
