/-
  The kept states of a shelf: Commit. No condition.
-/
import Derived.Test.YtjanddnlhaionaaGreatDoorKS
namespace Go.Proofs.YtjanddnlhaionaaGreatDoor
open Go.RowKit
open L3 (Tabs St)
open L4 (C okC encC putS putE Fit)

theorem KP_er {n sure : Nat} {had : List ByteArray} {d : L6.D} {t : L6.T} (h : L6.KP n had sure d t) : t.err = 0 ∨ t.err = 9 := by
  obtain ⟨O, M, j, q, s, h⟩ := h
  exact h.er
theorem app_err {t : L6.T} (d : L6.D) (s : ByteArray) (h : t.err ≠ 0) : L6.appE t d s = t.err ∧ L6.appD t d s = d ∧ L6.appT t d s = t := by
  have hf : L6.appFits t d s = false := by unfold L6.appFits; rw [decide_eq_false h]; rfl
  refine ⟨?_, ?_, ?_⟩
  · unfold L6.appE; rw [if_neg h]
  · unfold L6.appD; rw [hf]; rfl
  · unfold L6.appT; rw [hf]; rfl
theorem app_cases {t : L6.T} (d : L6.D) (s : ByteArray) (h : t.err = 0) :
    (L6.appE t d s = 8 ∧ L6.appD t d s = d ∧ L6.appT t d s = t) ∨ (L6.appE t d s = 0 ∧ (L6.appT t d s).err = 0 ∧ (L6.appT t d s).count = t.count + 1 ∧ (L6.appT t d s).life = t.life) ∨
      (L6.appE t d s ≠ 0 ∧ (L6.appT t d s).err = L6.appE t d s ∧ (L6.appT t d s).life = t.life) := by
  by_cases hf : L6.needN s.size + t.pos ≤ d.S.length
  · have hx : L6.appFits t d s = true := by unfold L6.appFits; rw [decide_eq_true h, decide_eq_true hf]; rfl
    have e1 : L6.appE t d s = (L6.wrK t s d (L6.needN s.size)).2 := by unfold L6.appE; rw [if_pos h, if_pos hf]
    rw [e1]
    unfold L6.appT
    rw [hx, if_pos rfl]
    by_cases hw : (L6.wrK t s d (L6.needN s.size)).2 = 0
    · rw [if_pos hw]; exact .inr (.inl ⟨hw, h, rfl, rfl⟩)
    · rw [if_neg hw]; exact .inr (.inr ⟨hw, rfl, rfl⟩)
  · have hx : L6.appFits t d s = false := by unfold L6.appFits; rw [decide_eq_true h, decide_eq_false hf]; rfl
    refine .inl ⟨?_, ?_, ?_⟩
    · unfold L6.appE; rw [if_pos h, if_neg hf]
    · unfold L6.appD; rw [hx]; rfl
    · unfold L6.appT; rw [hx]; rfl
theorem flush_cases (t : L6.T) (d : L6.D) (h : t.err = 0) : L6.flushE t d = 0 ∨ L6.flushE t d = 9 := by
  unfold L6.flushE L6.settleE
  rw [if_pos h]
  split
  · exact .inr rfl
  · exact .inl rfl

section
variable {K : List Int} {I : St} {n i : Nat} {B : List Bt} {sure : Nat} {d : L6.D} {st : Sf} {m0 : MP} {c0 : Nat}
/-- What a Commit leaves that was not answered with OK. -/
theorem Ks.fail (h : Ks K I n i B sure d st m0 c0) {B' : List Bt} {d' : L6.D} {T : L6.T} (kp : L6.KP n (B'.map btS) sure d' T) (e0 : T.err = 0 → B'.length = sure ∧ T.count = sure) (e9 : T.err ≠ 0 → T.err = 9 ∧ B'.length = sure + 1)
    (ok : ∀ r ∈ B', BtK r) (base : B'.take sure = B.take sure) (all : ∃ x, loadS K I (fun _ => none) 0 (allE B') = some x) (life : T.life ≤ i + 1) (bn : B'.length ≤ i + 1) :
    Ks K I n (i + 1) B' sure d' (remSt { st with t := T }) m0 c0 := by
  rw [(h.fr.tape T).rem]
  exact ⟨kp, e0, e9, ok, by rw [base]; exact h.base, all, Fr.new K I m0 c0 _, h.ms, h.ms, Nat.le_succ_of_le life, Nat.zero_le _, bn⟩
theorem Ks.commit (h : Ks K I n i B sure d st m0 c0) (hi : i ≤ 60) {c : C} (hc : esz c ≤ 9000) (hf : ∀ D, Fit D c) :
    (comE st d c = 0 → B.length = sure ∧ Ks K I n (i + 1) (B ++ [(c, encs st)]) (sure + 1) (comD st d c) (comSt st d c) st.m st.c) ∧
    (comE st d c ≠ 0 → (comE st d c = 9 ∧ B.length = sure ∧ Ks K I n (i + 1) (B ++ [(c, encs st)]) sure (comD st d c) (comSt st d c) m0 c0) ∨ ((comE st d c = 9 → B.length = sure + 1) ∧ Ks K I n (i + 1) B sure (comD st d c) (comSt st d c) m0 c0)) := by
  cases h1 : comOK c with
  | false =>
    have eE : comE st d c = 2 := by unfold comE; rw [h1]; rfl
    have eD : comD st d c = d := by unfold comD; rw [h1]; rfl
    have eS : comSt st d c = st := by unfold comSt; rw [h1]; rfl
    rw [eE, eD, eS]
    exact ⟨fun e => by omega, fun _ => .inr ⟨fun e => by omega, h.more⟩⟩
  | true =>
    have eE : comE st d c = stoE st d c := by unfold comE; rw [h1]; rfl
    have eD : comD st d c = stoD st d c := by unfold comD; rw [h1]; rfl
    have eS : comSt st d c = if stoE st d c = 0 then { st with t := stoT st d c, fresh := [] } else remSt { st with t := stoT st d c } := by unfold comSt; rw [h1]; rfl
    rw [eE, eD, eS]
    clear eE eD eS
    have hlf := h.life
    have hbn := h.bn
    by_cases hp : putE (batC c (encs st)) = 0
    · have hk : BtK (c, encs st) := bat_k hc hf (by rw [encs_len]; have := h.fl; omega) h.encsOk h1 hp
      have hokB : ∀ r ∈ B ++ [(c, encs st)], BtK r := fun r hr => by
        rcases List.mem_append.1 hr with hr | hr
        · exact h.ok r hr
        · rw [List.mem_singleton.1 hr]; exact hk
      have hrs : recS st c = btS (c, encs st) := rfl
      have hmap : (B ++ [(c, encs st)]).map btS = B.map btS ++ [recS st c] := by rw [List.map_append]; rfl
      obtain ⟨k1, -, k3⟩ := h.kp.append (recS st c)
      by_cases he : st.t.err = 0
      · obtain ⟨hb, hcn⟩ := h.e0 he
        have hld : loadS K I (fun _ => none) 0 (allE (B ++ [(c, encs st)])) = some (st.m, st.c) := by
          have hb0 := h.base
          rw [List.take_of_length_le (by omega)] at hb0
          rw [allE_snoc, loadS_append, hb0]
          exact h.fr.load
        have hH : (B.map btS).length = st.t.count := by rw [List.length_map]; omega
        have hlen : (B ++ [(c, encs st)]).length = sure + 1 := by rw [List.length_append, hb]; rfl
        have htk : (B ++ [(c, encs st)]).take sure = B.take sure := by rw [List.take_append_of_le_length (by omega)]
        rcases app_cases d (recS st c) he with ⟨a1, a2, a3⟩ | ⟨a1, a2, a3, a4⟩ | ⟨a1, a2, a3⟩
        · -- full
          have eE : stoE st d c = 8 := by unfold stoE; rw [if_pos hp, if_neg (by rw [a1]; omega)]; exact a1
          have eD : stoD st d c = d := by unfold stoD; rw [if_pos hp, if_neg (by rw [a1]; omega)]; exact a2
          have eT : stoT st d c = st.t := by unfold stoT; rw [if_pos hp, if_neg (by rw [a1]; omega)]; exact a3
          rw [eE, eD, eT, if_neg (by omega)]
          exact ⟨fun e => by omega, fun _ => .inr ⟨fun e => by omega, h.fail h.kp h.e0 h.e9 h.ok rfl h.all h.life (by omega)⟩⟩
        · -- appended
          have eH : L6.HadB st.t d (B.map btS) (recS st c) = (B ++ [(c, encs st)]).map btS := by unfold L6.HadB; rw [if_pos ⟨.inl a1, hH⟩, hmap]
          rw [eH] at k3
          have k4 := k3.settle
          rw [List.length_map, hlen] at k4
          have eE : stoE st d c = L6.flushE (L6.appT st.t d (recS st c)) (L6.appD st.t d (recS st c)) := by unfold stoE; rw [if_pos hp, if_pos a1]
          have eD : stoD st d c = L6.flushD (L6.appT st.t d (recS st c)) (L6.appD st.t d (recS st c)) := by unfold stoD; rw [if_pos hp, if_pos a1]
          have eT : stoT st d c = L6.flushT (L6.appT st.t d (recS st c)) (L6.appD st.t d (recS st c)) := by unfold stoT; rw [if_pos hp, if_pos a1]
          rw [eE, eD, eT]
          have hl : (L6.flushT (L6.appT st.t d (recS st c)) (L6.appD st.t d (recS st c))).life = st.t.life := a4
          have hct : (L6.flushT (L6.appT st.t d (recS st c)) (L6.appD st.t d (recS st c))).count = st.t.count + 1 := a3
          have her : (L6.flushT (L6.appT st.t d (recS st c)) (L6.appD st.t d (recS st c))).err = L6.flushE (L6.appT st.t d (recS st c)) (L6.appD st.t d (recS st c)) := rfl
          rcases flush_cases _ (L6.appD st.t d (recS st c)) a2 with hfl | hfl
          · rw [if_pos hfl] at k4
            rw [hfl] at her ⊢
            rw [if_pos rfl]
            refine ⟨fun _ => ⟨hb, k4, fun _ => ⟨hlen, by rw [hct, hcn]⟩, fun e => absurd her e, hokB, ?_, ⟨_, hld⟩, Fr.new K I st.m st.c _, h.vs, h.vs, by rw [hl]; omega, Nat.zero_le _, by rw [hlen]; omega⟩, fun e => absurd rfl e⟩
            rw [List.take_of_length_le (by omega)]; exact hld
          · rw [if_neg (by rw [hfl]; omega)] at k4
            rw [hfl] at her ⊢
            rw [if_neg (by omega)]
            exact ⟨fun e => by omega, fun _ => .inl ⟨rfl, hb, h.fail k4 (fun e => by rw [her] at e; omega) (fun _ => ⟨her, hlen⟩) hokB htk ⟨_, hld⟩ (by rw [hl]; omega) (by rw [hlen]; omega)⟩⟩
        · -- down
          have h9 : L6.appE st.t d (recS st c) = 9 := by
            have := KP_er k3
            rw [a2] at this
            rcases this with h | h
            · exact absurd h a1
            · exact h
          have eH : L6.HadB st.t d (B.map btS) (recS st c) = (B ++ [(c, encs st)]).map btS := by unfold L6.HadB; rw [if_pos ⟨.inr h9, hH⟩, hmap]
          rw [eH] at k3
          have eE : stoE st d c = 9 := by unfold stoE; rw [if_pos hp, if_neg a1]; exact h9
          have eD : stoD st d c = L6.appD st.t d (recS st c) := by unfold stoD; rw [if_pos hp, if_neg a1]
          have eT : stoT st d c = L6.appT st.t d (recS st c) := by unfold stoT; rw [if_pos hp, if_neg a1]
          rw [eE, eD, eT, if_neg (by omega)]
          rw [h9] at a2
          exact ⟨fun e => by omega, fun _ => .inl ⟨rfl, hb, h.fail k3 (fun e => by rw [a2] at e; omega) (fun _ => ⟨a2, hlen⟩) hokB htk ⟨_, hld⟩ (by rw [a3]; omega) (by rw [hlen]; omega)⟩⟩
      · obtain ⟨h9, hb⟩ := h.e9 he
        obtain ⟨b1, b2, b3⟩ := app_err d (recS st c) he
        have hne : ¬ L6.appE st.t d (recS st c) = 0 := by rw [b1]; exact he
        have eE : stoE st d c = 9 := by unfold stoE; rw [if_pos hp, if_neg hne, b1]; exact h9
        have eD : stoD st d c = d := by unfold stoD; rw [if_pos hp, if_neg hne]; exact b2
        have eT : stoT st d c = st.t := by unfold stoT; rw [if_pos hp, if_neg hne]; exact b3
        rw [eE, eD, eT, if_neg (by omega)]
        exact ⟨fun e => by omega, fun _ => .inr ⟨fun _ => hb, h.fail h.kp h.e0 h.e9 h.ok rfl h.all h.life (by omega)⟩⟩
    · have h2 : putE (batC c (encs st)) = 2 := by
        unfold putE at hp ⊢
        split
        · rename_i hq; rw [if_pos hq] at hp; exact absurd rfl hp
        · rfl
      have eE : stoE st d c = 2 := by unfold stoE; rw [if_neg hp]; exact h2
      have eD : stoD st d c = d := by unfold stoD; rw [if_neg hp]
      have eT : stoT st d c = st.t := by unfold stoT; rw [if_neg hp]
      rw [eE, eD, eT, if_neg (by omega)]
      exact ⟨fun e => by omega, fun _ => .inr ⟨fun e => by omega, h.fail h.kp h.e0 h.e9 h.ok rfl h.all h.life (by omega)⟩⟩
end
end Go.Proofs.YtjanddnlhaionaaGreatDoor
