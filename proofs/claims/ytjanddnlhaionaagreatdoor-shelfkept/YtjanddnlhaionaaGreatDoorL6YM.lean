/-
  Contracts of Append, of a tape all of whose memory is new, and of SameTexts. No condition.
-/
import Derived.Test.YtjanddnlhaionaaGreatDoorL6YL
namespace Go.Proofs.YtjanddnlhaionaaGreatDoor.L6
open Go.RowKit Go.Shelf

set_option maxRecDepth 100000 in
theorem res48 {R : Ending → World → Prop} (a : Act) (W : World) (g : Nat) (q : Int) (hp : a.tmps[4]?.getD undef = .pointer (some ⟨g, 0, none⟩)) (hc : W.cell? ⟨g, 0, none⟩ = some (.int .i64 q)) (hR : R (.returned (.int .i64 q)) W) (hd : a.defers = [] := by rfl) : bodyPost Tryz.prog Tryz.f170 R .ret a W :=
  bodyPost_ret (v := .int .i64 q) (by simp [results, Tryz.results170, go_sem, hp, hc]) hd hR
set_option maxRecDepth 100000 in
set_option maxHeartbeats 2000000 in
theorem add48_err {w : World} {F : Nat → Prop} {bt bl b : Nat} {t : T} {d : D} (h : TAt w F bt bl b d t) (s : ByteArray) (he : t.err ≠ 0) :
    Calls Tryz.prog 170 #[.pointer (some ⟨bl, 0, none⟩), .string s] w fun e w' => e = .returned (.int .i64 t.err) ∧ Below w.heap.size w w' := by
  obtain ⟨-, -, -, -, -, c4, -⟩ := h.l.c
  have hbl := h.l.lt.2
  obtain ⟨er, her⟩ : ∃ er, t.err = er := ⟨_, rfl⟩
  rw [her] at c4 he ⊢
  have e0 : (er != (0 : Int)) = true := by rw [bne, Bool.not_eq_true', beq_eq_false_iff_ne]; exact he
  have HB : Hid (Below w.heap.size w ((w.alloc (.cells #[.pointer (some ⟨bl, 0, none⟩)] 199)).alloc (.cells #[.int .i64 er] 30))) := ((Below.refl _ _).alloc (Nat.le_refl _) _).alloc (by simp) _
  have bB := Boxed.new (w.alloc (.cells #[.pointer (some ⟨bl, 0, none⟩)] 199)) 30 (.int .i64 er)
  simp only [World.size_alloc] at bB
  have HC := Lib.hid bB.cell
  clear bB
  clear h her
  go_enter Tryz.func170, Tryz.ntmps170
  go_wp2
  exact res48 _ _ _ _ rfl HC.out ⟨rfl, HB.out⟩
set_option maxRecDepth 100000 in
set_option maxHeartbeats 2000000 in
theorem add48_full {w : World} {F : Nat → Prop} {bt bl b : Nat} {t : T} {d : D} (h : TAt w F bt bl b d t) (s : ByteArray) (hs : s.size ≤ 1000000000) (he : t.err = 0) (hf : ¬ needN s.size + t.pos ≤ d.S.length) :
    Calls Tryz.prog 170 #[.pointer (some ⟨bl, 0, none⟩), .string s] w fun e w' => e = .returned (.int .i64 8) ∧ Below w.heap.size w w' := by
  have HN := Lib.hid (need17n s.size (by omega))
  obtain ⟨nd, hnd⟩ : ∃ nd, needN s.size = nd := ⟨_, rfl⟩
  have hpo := h.ok.p
  have hn2 := h.p.ok.n2
  rw [hnd] at HN hf
  obtain ⟨-, -, -, -, -, c4, -⟩ := h.l.c
  rw [he] at c4
  have hbl := h.l.lt.2
  have hb0 : Below w.heap.size w ((w.alloc (.cells #[.pointer (some ⟨bl, 0, none⟩)] 199)).alloc (.cells #[.int .i64 0] 30)) := ((Below.refl _ _).alloc (Nat.le_refl _) _).alloc (by simp) _
  have HRM := Lib.hid (room49 (h.l.below hb0) (h.p.below hb0) h.ok)
  have bB := Boxed.new (w.alloc (.cells #[.pointer (some ⟨bl, 0, none⟩)] 199)) 30 (.int .i64 0)
  simp only [World.size_alloc] at bB
  have HC : Hid (∀ n, ((((w.alloc (.cells #[.pointer (some ⟨bl, 0, none⟩)] 199)).alloc (.cells #[.int .i64 0] 30)).drewN n).setCell ⟨w.heap.size + 1, 0, none⟩ (.int .i64 8)).cell? ⟨w.heap.size + 1, 0, none⟩ = some (.int .i64 8)) := fun n => ((show Boxed (((w.alloc (.cells #[.pointer (some ⟨bl, 0, none⟩)] 199)).alloc (.cells #[.int .i64 0] 30)).drewN n) (w.heap.size + 1) 30 (.int .i64 0) from bB).set (.int .i64 8)).cell
  clear bB
  have HB : Hid (∀ n, Below w.heap.size w ((((w.alloc (.cells #[.pointer (some ⟨bl, 0, none⟩)] 199)).alloc (.cells #[.int .i64 0] 30)).drewN n).setCell ⟨w.heap.size + 1, 0, none⟩ (.int .i64 8))) := fun n => (below_drewN hb0 n).setCell (by simp only; omega) _
  obtain ⟨rm, hrm⟩ : ∃ rm, (d.S.length - t.pos : Nat) = rm := ⟨_, rfl⟩
  rw [hrm] at HRM
  have hle : (rm : Int) < (nd : Int) := by omega
  have hle' : rm < nd := by omega
  have hndl : (nd : Int) ≤ 1000000001 := by rw [← hnd]; unfold needN; split <;> omega
  clear h hb0 hrm hf hpo hn2 hnd
  go_enter Tryz.func170, Tryz.ntmps170
  go_wp2_with (first | (go_at_call 197; refine (HN.out _).mono ?_; rintro e w' ⟨rfl, rfl⟩) | (go_at_call 135; refine HRM.out.mono ?_; rintro e w' ⟨rfl, n, rfl⟩))
  exact res48 _ _ _ _ rfl (HC.out n) ⟨rfl, HB.out n⟩
set_option maxRecDepth 100000 in
/-- Append, whatever becomes of it. -/
theorem append26 {w : World} {F : Nat → Prop} {bt bl b : Nat} {t : T} {d : D} (h : TAt w F bt bl b d t) (hw : d.W.length + 4096 ≤ 1000000) (hc : t.count < 1000000) (s : ByteArray) (hs : s.size ≤ 1000000000) :
    Calls Tryz.prog 132 #[.pointer (some ⟨bt, 0, none⟩), .string s] w fun e w' => e = .returned (.int .i64 (appE t d s)) ∧ ∃ G, TAt w' G bt bl b (appD t d s) (appT t d s) ∧ (∀ k, G k → F k ∨ w.heap.size ≤ k) ∧ Turn (FL F bl) w w' := by
  have HADD : Hid (Calls Tryz.prog 170 #[.pointer (some ⟨bl, 0, none⟩), .string s] w fun e w' => e = .returned (.int .i64 (appE t d s)) ∧ ∃ G, TAt w' G bt bl b (appD t d s) (appT t d s) ∧ (∀ k, G k → F k ∨ w.heap.size ≤ k) ∧ Turn (FL F bl) w w') := by
    by_cases he : t.err = 0
    · by_cases hf : needN s.size + t.pos ≤ d.S.length
      · have e1 : appFits t d s = true := by unfold appFits; rw [decide_eq_true he, decide_eq_true hf]; rfl
        have e2 : appE t d s = (wrK t s d (needN s.size)).2 := by unfold appE; rw [if_pos he, if_pos hf]
        have e3 : appD t d s = (wrK t s d (needN s.size)).1 := by unfold appD; rw [if_pos e1]
        have e4 : appT t d s = if (wrK t s d (needN s.size)).2 = 0 then { t with count := t.count + 1, pos := t.pos + needN s.size } else { t with err := (wrK t s d (needN s.size)).2 } := by unfold appT; rw [if_pos e1]
        rw [e2, e3, e4]
        refine (add48_fits h hw s hs he hf).mono ?_
        rintro e w' ⟨rfl, ⟨G, g1, g2, g3⟩, hl, ht⟩
        refine ⟨rfl, G, ⟨hl, g1, ?_, fun hg => ?_, fun hg => ?_⟩, g2, ht⟩
        · have hlen : (wrK t s d (needN s.size)).1.S.length = d.S.length := by rw [← wrF_all]; exact (wrF_len t s d _).1
          split
          · exact ⟨by show t.count + 1 ≤ _; omega, h.ok.l, h.ok.l0, by rw [hlen]; show t.pos + needN s.size ≤ _; omega⟩
          · exact ⟨h.ok.c, h.ok.l, h.ok.l0, by rw [hlen]; exact h.ok.p⟩
        · obtain ⟨cs, ty, hcc, hty⟩ := g3 bt hg
          exact ty_ne hcc hl.rt (by rcases hty with rfl | rfl | rfl <;> decide) rfl
        · obtain ⟨cs, ty, hcc, hty⟩ := g3 bl hg
          exact ty_ne hcc hl.rl (by rcases hty with rfl | rfl | rfl <;> decide) rfl
      · have e1 : appFits t d s = false := by unfold appFits; rw [decide_eq_false hf, Bool.and_false]
        have e2 : appE t d s = 8 := by unfold appE; rw [if_pos he, if_neg hf]
        have e3 : appD t d s = d := by unfold appD; rw [e1]; rfl
        have e4 : appT t d s = t := by unfold appT; rw [e1]; rfl
        rw [e2, e3, e4]
        refine (add48_full h s hs he hf).mono ?_
        rintro e w' ⟨rfl, hb⟩
        exact ⟨rfl, F, ⟨h.l.below hb, h.p.below hb, h.ok, h.n1, h.n2⟩, fun k hk => .inl hk, Turn.of_below hb⟩
    · have e1 : appFits t d s = false := by unfold appFits; rw [decide_eq_false he]; rfl
      have e2 : appE t d s = t.err := by unfold appE; rw [if_neg he]
      have e3 : appD t d s = d := by unfold appD; rw [e1]; rfl
      have e4 : appT t d s = t := by unfold appT; rw [e1]; rfl
      rw [e2, e3, e4]
      refine (add48_err h s he).mono ?_
      rintro e w' ⟨rfl, hb⟩
      exact ⟨rfl, F, ⟨h.l.below hb, h.p.below hb, h.ok, h.n1, h.n2⟩, fun k hk => .inl hk, Turn.of_below hb⟩
  have HE := Lib.hid (exists43 h.l)
  obtain ⟨c0, -, -, -, -, -, -⟩ := h.l.c
  clear h
  generalize appD t d s = dd at HADD ⊢
  generalize appT t d s = tt at HADD ⊢
  go_enter Tryz.func132, Tryz.ntmps132
  go_wp2_with (first | (go_at_call 134; refine HE.out.mono ?_; rintro e w' ⟨rfl, rfl⟩) | (go_at_call 170; refine HADD.out.mono ?_; rintro e w' ⟨rfl, h1⟩; have H1 := Lib.hid h1; clear h1))
  go_ret
  exact ⟨rfl, H1.out⟩
end Go.Proofs.YtjanddnlhaionaaGreatDoor.L6
