/-
  The document's example, by the kernel; a drum and a tape all of whose memory is new. No condition.
-/
import Derived.Test.YtjanddnlhaionaaGreatDoorL6YN
namespace Go.Proofs.YtjanddnlhaionaaGreatDoor.L6
open Go.RowKit

def bA : ByteArray := ⟨#[144]⟩
def bB : ByteArray := ⟨#[98]⟩
def e0 : D := newD 8
def f0 : T := openT e0
def e1 : D := appD f0 e0 bA
def f1 : T := appT f0 e0 bA
def e2 : D := appD f1 e1 bB
def f2 : T := appT f1 e1 bB
def exChk : Bool := decide (openE e0 = 0) && decide ((scanD e0).recs.length = 0) && decide (appE f0 e0 bA = 0) && decide (appE f1 e1 bB = 0) && decide (f2.count = 2) && decide (f2.life = 1) && decide (e2.S.length - f2.pos = 6) &&
  decide (e1.W.length ≤ 10) && decide (e2.W.length ≤ 10) && decide (f1.count ≤ 10) && decide ((scanD (crashD e2 [1])).recs.length = 0) && decide ((scanD (crashD e2 [0])).recs.map (·.data.toList) = [[144]]) && decide ((scanD (crashD e2 [0])).occ = 1) && decide ((scanD (crashD e2 [0])).great = 1)
set_option maxRecDepth 100000 in
theorem exChk_true : exChk = true := by decide +kernel

/-- A drum and a tape whose blocks all lie from w0's end on; nothing of w0 has turned. -/
def TN (w0 w : World) (bt bl b : Nat) (d : D) (t : T) : Prop := ∃ F, TAt w F bt bl b d t ∧ (∀ k, F k → w0.heap.size ≤ k) ∧ w0.heap.size ≤ bt ∧ w0.heap.size ≤ bl ∧ Below w0.heap.size w0 w
set_option maxRecDepth 100000 in
theorem TN.pn {w0 w : World} {bt bl b : Nat} {d : D} {t : T} (h : TN w0 w bt bl b d t) : PN w0 w b d := by
  obtain ⟨F, h1, h2, -, -, h5⟩ := h
  exact ⟨F, h1.p, h2, h5⟩
set_option maxRecDepth 100000 in
theorem TN.below {w0 w w' : World} {bt bl b : Nat} {d : D} {t : T} (h : TN w0 w bt bl b d t) (hb : Below w.heap.size w w') : TN w0 w' bt bl b d t := by
  obtain ⟨F, h1, h2, h3, h4, h5⟩ := h
  exact ⟨F, ⟨h1.l.below hb, h1.p.below hb, h1.ok, h1.n1, h1.n2⟩, h2, h3, h4, h5.trans (hb.mono h5.size)⟩
set_option maxRecDepth 100000 in
theorem TN.okT {w0 w : World} {bt bl b : Nat} {d : D} {t : T} (h : TN w0 w bt bl b d t) : OkT d t := by
  obtain ⟨F, h1, -⟩ := h
  exact h1.ok
set_option maxRecDepth 100000 in
theorem appendN {w0 w : World} {bt bl b : Nat} {d : D} {t : T} (h : TN w0 w bt bl b d t) (hw : d.W.length + 4096 ≤ 1000000) (hc : t.count < 1000000) (s : ByteArray) (hs : s.size ≤ 1000000000) :
    Calls Tryz.prog 132 #[.pointer (some ⟨bt, 0, none⟩), .string s] w fun e w' => e = .returned (.int .i64 (appE t d s)) ∧ TN w0 w' bt bl b (appD t d s) (appT t d s) := by
  obtain ⟨F, h1, h2, h3, h4, h5⟩ := h
  refine (append26 h1 hw hc s hs).mono ?_
  rintro e w' ⟨he, G, g1, g2, g3⟩
  exact ⟨he, G, g1, fun k hk => by rcases g2 k hk with h | h; exact h2 k h; exact Nat.le_trans h5.size h, h3, h4, h5.trans (g3.below _ h5.size (fun k hk => by rcases hk with hk | rfl; exact h2 k hk; exact h4))⟩
set_option maxRecDepth 100000 in
theorem settleT {w0 w : World} {bt bl b : Nat} {d : D} {t : T} (h : TN w0 w bt bl b d t) (hw : d.W.length ≤ 1000000) :
    Calls Tryz.prog 133 #[.pointer (some ⟨bt, 0, none⟩)] w fun e w' => e = .returned (.int .i64 (flushE t d)) ∧ TN w0 w' bt bl b (flushD t d) (flushT t d) := by
  obtain ⟨F, h1, h2, h3, h4, h5⟩ := h
  refine (settle20 h1 hw).mono ?_
  rintro e w' ⟨he, g1, g3⟩
  exact ⟨he, F, g1, h2, h3, h4, h5.trans (g3.below _ h5.size (fun k hk => by rcases hk with hk | rfl; exact h2 k hk; exact h4))⟩
set_option maxRecDepth 100000 in
theorem lenT {w0 w : World} {bt bl b : Nat} {d : D} {t : T} (h : TN w0 w bt bl b d t) : Calls Tryz.prog 85 #[.pointer (some ⟨bt, 0, none⟩)] w fun e w' => e = .returned (.int .i64 (t.count : Int)) ∧ w = w' := by
  obtain ⟨F, h1, -⟩ := h
  exact len25 h1.l
set_option maxRecDepth 100000 in
theorem roomT {w0 w : World} {bt bl b : Nat} {d : D} {t : T} (h : TN w0 w bt bl b d t) : Calls Tryz.prog 84 #[.pointer (some ⟨bt, 0, none⟩)] w fun e w' => e = .returned (.int .i64 ((d.S.length - t.pos : Nat) : Int)) ∧ Below w.heap.size w w' := by
  obtain ⟨F, h1, -⟩ := h
  refine (room27 h1.l h1.p h1.ok).mono ?_
  rintro e w' ⟨he, n, rfl⟩
  exact ⟨he, below_drewN (Below.refl _ _) n⟩
set_option maxRecDepth 100000 in
theorem openT_ok (d : D) (h : Ok d) (he : openE d = 0) : OkT d (openT d) := by
  have hg : (scanD d).great < 4294967296 := great_lt (shown d)
  have hr := (scanL_ok (shown d)).1
  have ho := occ_le (shown d)
  have hl : (shown d).length = d.S.length := by simp [shown]
  have hn := h.n2
  have hne : (scanD d).great ≠ 4294967295 := by
    intro hq
    unfold openE at he
    by_cases hgo : d.gone = true
    · rw [if_pos hgo] at he; cases he
    · rw [if_neg hgo, if_pos hq] at he; cases he
  exact ⟨by show (scanL (shown d)).recs.length ≤ _; omega, by show (scanD d).great + 1 ≤ _; omega, by show 0 < (scanD d).great + 1; omega, by show (scanL (shown d)).occ ≤ _; omega⟩
set_option maxRecDepth 100000 in
theorem openN {w0 w : World} {b : Nat} {d : D} (h : PN w0 w b d) (hw : d.W.length ≤ 1000000) (he : openE d = 0) :
    Calls Tryz.prog 74 #[.pointer (some ⟨b, 0, none⟩)] w fun e w' => ∃ bt bl v, e = .returned (.tuple #[.pointer (some ⟨bt, 0, none⟩), v, .int .i64 0]) ∧ TN w0 w' bt bl b d (openT d) ∧ w'.ownsRow w.heap.size 9 1 v (scanD d).recs.length (strs (scanD d).recs) ∧ Below w.heap.size w w' := by
  obtain ⟨F, hP, hF, hB⟩ := h
  refine (open19 hP hw).mono ?_
  rintro e w' ⟨hb, h1⟩
  rw [if_pos he] at h1
  obtain ⟨bt, bl, v, rfl, hl, h3, h4, ho⟩ := h1
  refine ⟨bt, bl, v, rfl, ⟨F, ⟨hl, hP.below hb, openT_ok d hP.ok he, fun hf => ?_, fun hf => ?_⟩, hF, Nat.le_trans hB.size h3, Nat.le_trans hB.size h4, hB.trans (hb.mono hB.size)⟩, ho, hb⟩
  · have := hP.lt bt hf; omega
  · have := hP.lt bl hf; omega
set_option maxRecDepth 100000 in
theorem openNil (w : World) : Calls Tryz.prog 74 #[.pointer none] w fun e w' => e = .returned (.tuple #[.pointer none, .slice none 0 0, .int .i64 1]) ∧ Below w.heap.size w w' := by
  have HS := Lib.hid (scanNil w)
  go_enter Tryz.func74, Tryz.ntmps74
  go_wp2_with fail
  refine HS.out.mono ?_
  rintro e w2 ⟨hb, rfl⟩
  have HB := Lib.hid hb
  clear hb
  go_wp2
  refine bodyPost_ret (results_tmp3 rfl _ _ _) rfl ?_
  exact ⟨rfl, HB.out⟩
end Go.Proofs.YtjanddnlhaionaaGreatDoor.L6
