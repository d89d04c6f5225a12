/-
  Contract of add. No condition.
-/
import Derived.Test.YtjanddnlhaionaaGreatDoorL6YJ
namespace Go.Proofs.YtjanddnlhaionaaGreatDoor.L6
open Go.RowKit Go.Shelf
attribute [local go_sem] Oper.semAt_some

set_option maxRecDepth 100000 in
/-- The drum's blocks and nothing else. -/
theorem PAt.core {w : World} {F : Nat → Prop} {b : Nat} {d : D} (h : PAt w F b d) : ∃ G, PAt w G b d ∧ (∀ k, G k → F k) ∧ ∀ k, G k → ∃ cs t, w.heap[k]? = some (.cells cs t (0, 0)) ∧ (t = 120 ∨ t = 144 ∨ t = 146) := by
  obtain ⟨g, c, v, hi⟩ := h.is
  have hF : ∀ k, (k = b ∨ k = g ∨ v.ownBlock = some k) → F k := fun k hk => by
    rcases hk with rfl | rfl | hk
    · exact hi.fb
    · exact hi.f1
    · exact hi.f2 k hk
  refine ⟨fun k => k = b ∨ k = g ∨ v.ownBlock = some k, ⟨⟨g, c, v, hi.row, hi.o1, hi.o2, hi.n1, hi.n2, hi.n12, .inl rfl, .inr (.inl rfl), fun k hk => .inr (.inr hk)⟩, h.ok, fun k hk => h.lt k (hF k hk)⟩, hF, fun k hk => ?_⟩
  rcases hk with rfl | rfl | hk
  · exact ⟨_, _, hi.row, .inl rfl⟩
  · obtain ⟨cs, hc⟩ := row_ty hi.o1 rfl
    exact ⟨_, _, hc, .inr (.inl rfl)⟩
  · obtain ⟨cs, hc⟩ := row_ty hi.o2 hk
    exact ⟨_, _, hc, .inr (.inr rfl)⟩

def wrS (t : T) (s : ByteArray) (p : D × Int) (i : Nat) : D × Int := if p.2 = 0 then (writeD p.1 ((t.pos + i : Nat) : Int) (layB (partOf t.life (t.count + 1) s i)), writeE p.1 ((t.pos + i : Nat) : Int) (layB (partOf t.life (t.count + 1) s i))) else p
def wrF (t : T) (s : ByteArray) (d : D) (l : List (Fin (needN s.size))) : D × Int := l.foldl (fun p i => wrS t s p i.1) (d, 0)
set_option maxRecDepth 100000 in
theorem wrF_snoc (t : T) (s : ByteArray) (d : D) (l : List (Fin (needN s.size))) (x : Fin (needN s.size)) : wrF t s d (l ++ [x]) = wrS t s (wrF t s d l) x.1 := by unfold wrF; rw [List.foldl_append]; rfl
set_option maxRecDepth 100000 in
theorem wrF_take (t : T) (s : ByteArray) (d : D) : ∀ k, k ≤ needN s.size → wrF t s d ((List.finRange (needN s.size)).take k) = wrK t s d k
  | 0, _ => by simp [wrF, wrK]
  | k + 1, h => by
    have hk : k < (List.finRange (needN s.size)).length := by rw [List.length_finRange]; omega
    rw [List.take_succ_eq_append_getElem hk, wrF_snoc, wrF_take t s d k (by omega)]
    simp only [List.getElem_finRange, Fin.cast_mk]
    rfl
set_option maxRecDepth 100000 in
theorem wrF_all (t : T) (s : ByteArray) (d : D) : wrF t s d (List.finRange (needN s.size)) = wrK t s d (needN s.size) := by
  rw [← wrF_take t s d _ (Nat.le_refl _), List.take_of_length_le (by simp)]
set_option maxRecDepth 100000 in
theorem wrF_stuck (t : T) (s : ByteArray) (d : D) (l m : List (Fin (needN s.size))) (h : (wrF t s d l).2 ≠ 0) : wrF t s d (l ++ m) = wrF t s d l := by
  unfold wrF at *
  rw [List.foldl_append]
  generalize l.foldl (fun p i => wrS t s p i.1) (d, 0) = p at *
  induction m with
  | nil => rfl
  | cons a m ih => rw [List.foldl_cons]; unfold wrS; rw [if_neg h]; exact ih
set_option maxRecDepth 100000 in
theorem wrF_prefix (t : T) (s : ByteArray) (d : D) (l : List (Fin (needN s.size))) (hl : l <+: List.finRange (needN s.size)) (h : (wrF t s d l).2 ≠ 0) : wrK t s d (needN s.size) = wrF t s d l := by
  obtain ⟨m, hm⟩ := hl
  rw [← wrF_all, ← hm, wrF_stuck t s d l m h]
set_option maxRecDepth 100000 in
theorem wrS_ok (t : T) (s : ByteArray) (p : D × Int) (i : Nat) (h : Ok p.1) : Ok (wrS t s p i).1 := by unfold wrS; split; exact h.write _ _; exact h
set_option maxRecDepth 100000 in
theorem wrF_len (t : T) (s : ByteArray) (d : D) (l : List (Fin (needN s.size))) : (wrF t s d l).1.S.length = d.S.length ∧ (wrF t s d l).1.W.length ≤ d.W.length + l.length := by
  rw [show l = l.reverse.reverse by simp]
  generalize l.reverse = m
  induction m with
  | nil => simp [wrF]
  | cons a m ih =>
    rw [List.reverse_cons, wrF_snoc, List.length_append]
    unfold wrS
    split
    · refine ⟨by rw [write_len]; exact ih.1, ?_⟩
      have := write_wlen (wrF t s d m.reverse).1 ((t.pos + a.1 : Nat) : Int) (layB (partOf t.life (t.count + 1) s a.1))
      have h2 := ih.2
      exact Nat.le_trans this (by have e : [a].length = 1 := rfl; rw [e]; omega)
    · exact ⟨ih.1, Nat.le_trans ih.2 (by omega)⟩

/-- The drum within a round: its blocks hold cells of its own types, and are the drum's old ones or new. -/
def PR (w : World) (F : Nat → Prop) (b : Nat) (d : D) (W : World) : Prop := ∃ G, PAt W G b d ∧ (∀ k, G k → F k ∨ w.heap.size ≤ k) ∧ ∀ k, G k → ∃ cs t, W.heap[k]? = some (.cells cs t (0, 0)) ∧ (t = 120 ∨ t = 144 ∨ t = 146)
set_option maxRecDepth 100000 in
theorem PR.of {w W : World} {F G : Nat → Prop} {b : Nat} {d : D} (h : PAt W G b d) (hG : ∀ k, G k → F k ∨ w.heap.size ≤ k) : PR w F b d W := by
  obtain ⟨H, h1, h2, h3⟩ := h.core
  exact ⟨H, h1, fun k hk => hG k (h2 k hk), h3⟩
set_option maxRecDepth 100000 in
theorem PR.keep {w W W' : World} {F : Nat → Prop} {b : Nat} {d : D} (h : PR w F b d W) (hs : W.heap.size ≤ W'.heap.size) (hk : ∀ (k : Nat) (cs : Array Value) (t : TypeId), W.heap[k]? = some (Obj.cells cs t (0, 0)) → (t = 120 ∨ t = 144 ∨ t = 146) → W'.heap[k]? = W.heap[k]?) : PR w F b d W' := by
  obtain ⟨G, h1, h2, h3⟩ := h
  have hk' : ∀ k, G k → W'.heap[k]? = W.heap[k]? := fun k hg => by obtain ⟨cs, t, hc, ht⟩ := h3 k hg; exact hk k cs t hc ht
  obtain ⟨g, c, v, hi⟩ := h1.is
  exact ⟨G, ⟨⟨g, c, v, hi.keep hk'⟩, h1.ok, fun k hg => Nat.lt_of_lt_of_le (h1.lt k hg) hs⟩, h2, fun k hg => by rw [hk' k hg]; exact h3 k hg⟩
set_option maxRecDepth 100000 in
theorem pr_own {β : Type} (w : World) (F : Nat → Prop) (b : Nat) (f : β → D) : Own (fun s W => PR w F b (f s) W) := by
  intro s X Y row h hg hr
  refine h.keep hg.size fun k cs t hc _ => hg.block k (Array.getElem?_eq_some_iff.1 hc).1 (fun e => ?_)
  obtain ⟨o, ho, hcc⟩ := hr k e.symm
  rw [hc] at ho
  cases ho
  cases hcc
set_option maxRecDepth 100000 in
theorem log_own {β : Type} (bt bl b : Nat) (f : β → T) : Own (fun s W => LogAt W bt bl b (f s)) := by
  intro s X Y row h hg hr
  refine h.keep (hg.block bt h.lt.1 (fun e => ?_)) (hg.block bl h.lt.2 (fun e => ?_))
  · obtain ⟨o, ho, hcc⟩ := hr bt e.symm
    rw [h.rt] at ho; cases ho; cases hcc
  · obtain ⟨o, ho, hcc⟩ := hr bl e.symm
    rw [h.rl] at ho; cases ho; cases hcc
set_option maxRecDepth 100000 in
theorem ownFrom_turn {β : Type} {F : Nat → Prop} {w : World} {B : Nat} (h : w.heap.size ≤ B) : OwnFrom B (fun (_ : β) W => Turn F w W) := by
  intro s X Y row ht hg hr
  exact ht.trans (G := fun k => row = some k) ⟨hg.os, hg.tape, hg.output, hg.size, fun k hk hn => hg.block k hk (fun e => hn e.symm)⟩ (fun i hi => .inr (by have := (hr i hi).1; omega))

/-- Between two rounds of add. -/
def AInv (w : World) (F : Nat → Prop) (bt bl b : Nat) (d : D) (t : T) (s : ByteArray) (pre : List (Fin (needN s.size))) (W : World) : Prop :=
  PR w F b (wrF t s d pre).1 W ∧ LogAt W bt bl b t ∧ Boxed W w.heap.size 199 (.pointer (some ⟨bl, 0, none⟩)) ∧ Boxed W (w.heap.size + 1) 30 (.int .i64 0) ∧ Boxes (w.heap.size + 2) t.life (t.count + 1) s W ∧ Turn (FL F bl) w W ∧ (wrF t s d pre).2 = 0
def AInvX (w : World) (F : Nat → Prop) (bt bl b : Nat) (d : D) (t : T) (s : ByteArray) (c : Code) (pre : List (Fin (needN s.size))) (W : World) : Prop :=
  PR w F b (wrF t s d pre).1 W ∧ LogAt W bt bl b { t with err := (wrF t s d pre).2 } ∧ Boxed W (w.heap.size + 1) 30 (.int .i64 (wrF t s d pre).2) ∧ Turn (FL F bl) w W ∧ c = .ret ∧ (wrF t s d pre).2 ≠ 0
set_option maxRecDepth 100000 in
theorem boxes_own {β : Type} (n life record : Nat) (s : ByteArray) : Own (fun (_ : β) W => Boxes n life record s W) := fun x X Y row h hg hr =>
  ⟨boxed_own n 3 (fun _ => .int .i64 (life : Int)) x X Y row h.b3 hg hr, boxed_own (n + 1) 3 (fun _ => .int .i64 (record : Int)) x X Y row h.b4 hg hr, boxed_own (n + 2) 9 (fun _ => .string s) x X Y row h.b5 hg hr⟩
set_option maxRecDepth 100000 in
theorem aInv_own (w : World) (F : Nat → Prop) (bt bl b : Nat) (d : D) (t : T) (s : ByteArray) (lo : Nat) (h : w.heap.size ≤ lo) : OwnFrom lo (AInv w F bt bl b d t s) :=
  OwnFrom.and (Own.from (pr_own w F b (fun pre => (wrF t s d pre).1)) _) (OwnFrom.and (Own.from (log_own bt bl b (fun _ => t)) _) (OwnFrom.and (Own.from (boxed_own _ _ _) _) (OwnFrom.and (Own.from (boxed_own _ _ _) _) (OwnFrom.and (Own.from (boxes_own _ _ _ _) _) (OwnFrom.and (ownFrom_turn h) (ownFrom_pure _ _))))))
set_option maxRecDepth 100000 in
theorem aInvX_own (w : World) (F : Nat → Prop) (bt bl b : Nat) (d : D) (t : T) (s : ByteArray) (lo : Nat) (h : w.heap.size ≤ lo) (c : Code) : OwnFrom lo (AInvX w F bt bl b d t s c) :=
  OwnFrom.and (Own.from (pr_own w F b (fun pre => (wrF t s d pre).1)) _) (OwnFrom.and (Own.from (log_own bt bl b (fun pre => { t with err := (wrF t s d pre).2 })) _) (OwnFrom.and (Own.from (boxed_own _ _ (fun pre => .int .i64 (wrF t s d pre).2)) _) (OwnFrom.and (ownFrom_turn h) (ownFrom_pure _ _))))
end Go.Proofs.YtjanddnlhaionaaGreatDoor.L6
