/-
  A crash and an arm, beside a tape and rows of strings. No condition.
-/
import Derived.Test.YtjanddnlhaionaaGreatDoorL6ZC
import Derived.Test.YtjanddnlhaionaaGreatDoorL6YT
namespace Go.Proofs.YtjanddnlhaionaaGreatDoor.L6
open Go.RowKit

set_option maxRecDepth 100000 in
theorem crashT {w0 w : World} {bt bl b : Nat} {d : D} {t : T} (h : TN w0 w bt bl b d t) (hw : d.W.length ≤ 1000000) (l : List Int) (lv : Value) (hl : IntsAt w w.heap.size lv l) (hll : l.length ≤ 1000000) :
    Calls Tryz.prog 36 #[.pointer (some ⟨b, 0, none⟩), lv] w fun e w' => e = .returned (.int .i64 0) ∧ PN w0 w' b (crashD d l) ∧ LogAt w' bt bl b t ∧ Keep9 w w' ∧ Below w0.heap.size w w' := by
  obtain ⟨F, h1, h2, h3, h4, h5, h6⟩ := h.core
  refine (crash16 h1.p hw l lv hl hll).mono ?_
  rintro e w' ⟨he, hP', hT⟩
  have hb := hT.below _ h5.size (fun k hk => h2 k hk)
  refine ⟨he, PN.turn h2 h5 hP' hT, h1.l.keep (hT.block _ (Array.getElem?_eq_some_iff.1 h1.l.rt).1 h1.n1) (hT.block _ (Array.getElem?_eq_some_iff.1 h1.l.rl).1 h1.n2), Keep9.of hT (fun k hk => ?_), hb⟩
  obtain ⟨cs, ty, hc, ht⟩ := h6 k hk
  exact ⟨cs, ty, hc, by rcases ht with rfl | rfl | rfl <;> decide⟩
set_option maxRecDepth 100000 in
theorem armT {w0 w : World} {bt bl b : Nat} {d : D} {t : T} (h : TN w0 w bt bl b d t) (n : Int) (hn : n ≤ 9223372036854775807) :
    Calls Tryz.prog 37 #[.pointer (some ⟨b, 0, none⟩), .int .i64 n] w fun e w' => e = .returned (.int .i64 (armE d n)) ∧ TN w0 w' bt bl b (armD d n) t ∧ Keep9 w w' ∧ Below w0.heap.size w w' := by
  obtain ⟨F, h1, h2, h3, h4, h5, h6⟩ := h.core
  refine (arm23 h1.p n hn).mono ?_
  rintro e w' ⟨he, hP', hT, -⟩
  have hb := hT.below _ h5.size (fun k hk => h2 k hk)
  have hok := h1.ok
  refine ⟨he, ⟨F, ⟨h1.l.keep (hT.block _ (Array.getElem?_eq_some_iff.1 h1.l.rt).1 h1.n1) (hT.block _ (Array.getElem?_eq_some_iff.1 h1.l.rl).1 h1.n2), hP', ?_, h1.n1, h1.n2⟩, h2, h3, h4, h5.trans hb⟩, Keep9.of hT (fun k hk => ?_), hb⟩
  · have e := arm_len d n
    obtain ⟨a, b, c, dd⟩ := hok
    exact ⟨a, b, c, by rw [e]; exact dd⟩
  · obtain ⟨cs, ty, hc, ht⟩ := h6 k hk
    exact ⟨cs, ty, hc, by rcases ht with rfl | rfl | rfl <;> decide⟩
set_option maxRecDepth 100000 in
theorem TN.log {w0 w : World} {bt bl b : Nat} {d : D} {t : T} (h : TN w0 w bt bl b d t) : LogAt w bt bl b t := by
  obtain ⟨F, h1, -⟩ := h
  exact h1.l
set_option maxRecDepth 100000 in
theorem empty_row {w : World} {B g : Nat} (hg : w.heap[g]? = some (.cells #[] 9 (0, 0))) (hB : B ≤ g) : w.ownsRow B 9 1 (.slice (some ⟨g, 0, none⟩) 0 0) 0 [] :=
  ⟨rfl, .inr ⟨g, 0, #[], rfl, hB, hg, Nat.le_refl _, Nat.zero_le _, rfl, rfl⟩⟩
set_option maxRecDepth 100000 in
theorem one_row {w : World} {B g : Nat} {s : ByteArray} (hg : w.heap[g]? = some (.cells #[.string s] 9 (0, 0))) (hB : B ≤ g) : w.ownsRow B 9 1 (.slice (some ⟨g, 0, none⟩) 1 1) 1 [.string s] :=
  ⟨rfl, .inr ⟨g, 1, #[.string s], rfl, hB, hg, Nat.le_refl _, by unfold maxLen; omega, rfl, rfl⟩⟩
/-! ### The state between two calls -/
def KP (n : Nat) (had : List ByteArray) (sure : Nat) (d : D) (t : T) : Prop := ∃ O M j q s, Kp n had sure d t O M j q s
set_option maxRecDepth 100000 in
theorem KP.wlen {n sure : Nat} {had : List ByteArray} {d : D} {t : T} (h : KP n had sure d t) : d.W.length ≤ 200 := by
  obtain ⟨O, M, j, q, s, h⟩ := h
  have := h.wlen
  have := h.nn
  omega
set_option maxRecDepth 100000 in
theorem KP.append {n sure : Nat} {had : List ByteArray} {d : D} {t : T} (h : KP n had sure d t) (x : ByteArray) :
    (appE t d x = 0 ∨ appE t d x = 8 ∨ appE t d x = 9) ∧ (appE t d x = 0 → (appT t d x).count = t.count + 1) ∧ KP n (HadB t d had x) sure (appD t d x) (appT t d x) := by
  obtain ⟨O, M, j, q, s, h⟩ := h
  obtain ⟨a, b, M', q', c⟩ := h.append x
  exact ⟨a, b, O, M', j, q', s, c⟩
set_option maxRecDepth 100000 in
theorem KP.settle {n sure : Nat} {had : List ByteArray} {d : D} {t : T} (h : KP n had sure d t) : KP n had (if flushE t d = 0 then had.length else sure) (flushD t d) (flushT t d) := by
  obtain ⟨O, M, j, q, s, h⟩ := h
  obtain ⟨j', s', c⟩ := h.settle
  exact ⟨O, M, j', q, s', c⟩
set_option maxRecDepth 100000 in
theorem KP.arm {n sure : Nat} {had : List ByteArray} {d : D} {t : T} (h : KP n had sure d t) (k : Int) : KP n had sure (armD d k) t := by
  obtain ⟨O, M, j, q, s, h⟩ := h
  exact ⟨O, M, j, q, s, h.arm k⟩
set_option maxRecDepth 100000 in
theorem KP.crash {n sure : Nat} {had : List ByteArray} {d : D} {t : T} (h : KP n had sure d t) (h3 : t.life < 1000) (keep : List Int) :
    openE (crashD d keep) = 0 ∧ had.take (scanD (crashD d keep)).recs.length = (scanD (crashD d keep)).recs ∧ sure ≤ (scanD (crashD d keep)).recs.length ∧ (sure < (scanD (crashD d keep)).recs.length → t.life < (openT (crashD d keep)).life) ∧ (openT (crashD d keep)).life ≤ t.life + 1 ∧ (scanD (crashD d keep)).recs.length ≤ 200 ∧
      KP n (scanD (crashD d keep)).recs (scanD (crashD d keep)).recs.length (crashD d keep) (openT (crashD d keep)) := by
  obtain ⟨O, M, j, q, s, h⟩ := h
  have hn := h.nn
  obtain ⟨a, ⟨E, b⟩, c, e, f, g, O', k⟩ := h.crash h3 keep
  refine ⟨a, ?_, c, e, f, by omega, O', [], 0, 0, 0, k⟩
  rw [b]
  exact List.take_left
set_option maxRecDepth 100000 in
theorem KP.new (n : Nat) (h2 : n ≤ 200) : KP n [] 0 (newD n) (openT (newD n)) ∧ (openT (newD n)).life = 1 := by
  obtain ⟨a, b⟩ := Kp.new n h2
  exact ⟨⟨_, _, _, _, _, a⟩, b⟩
set_option maxRecDepth 100000 in
theorem appT_count (t : T) (d : D) (s : ByteArray) : (appT t d s).count ≤ t.count + 1 ∧ (appT t d s).life = t.life := by
  unfold appT
  split
  · split
    · exact ⟨Nat.le_refl _, rfl⟩
    · exact ⟨Nat.le_succ _, rfl⟩
  · exact ⟨Nat.le_succ _, rfl⟩
end Go.Proofs.YtjanddnlhaionaaGreatDoor.L6
