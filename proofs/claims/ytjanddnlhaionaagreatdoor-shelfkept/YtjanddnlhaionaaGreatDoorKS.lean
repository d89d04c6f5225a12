/-
  The kept states of a shelf, plain. No condition.
-/
import Derived.Test.YtjanddnlhaionaaGreatDoorL6x6
import Derived.Test.YtjanddnlhaionaaGreatDoorKF
namespace Go.Proofs.YtjanddnlhaionaaGreatDoor
open Go.RowKit
open L3 (Tabs St)
open L4 (C LAt LIn LNF Wf okC encC putS putE Fit)

/-! ### What is fresh -/
theorem remS_eq : ∀ (l : List ByteArray) (m : MP) (c : Nat), l.Nodup → (∀ id ∈ l, (m id).isSome = true) → (remS m c l).2 = c - l.length ∧ ∀ x, (x ∈ l → (remS m c l).1 x = none) ∧ (x ∉ l → (remS m c l).1 x = m x)
  | [], m, c, _, _ => ⟨rfl, fun x => ⟨fun h => (by cases h), fun _ => rfl⟩⟩
  | id :: l, m, c, hn, hs => by
    have hnl := (List.nodup_cons.1 hn).1
    obtain ⟨h1, h2⟩ := remS_eq l (era m id) (c - 1) (List.nodup_cons.1 hn).2 (fun x hx => by
      rw [era_other _ (fun e : x = id => hnl (e ▸ hx))]
      exact hs x (List.mem_cons_of_mem _ hx))
    rw [remS, hs id (List.mem_cons_self), if_pos rfl]
    refine ⟨by rw [h1]; show c - 1 - l.length = c - (l.length + 1); omega, fun x => ⟨fun hx => ?_, fun hx => ?_⟩⟩
    · by_cases hl : x ∈ l
      · exact (h2 x).1 hl
      · rw [(h2 x).2 hl]
        rcases List.mem_cons.1 hx with e | hx
        · rw [e]; exact era_same _ _
        · exact absurd hx hl
    · rw [(h2 x).2 (fun h => hx (List.mem_cons_of_mem _ h)), era_other _ (fun e : x = id => hx (by rw [e]; exact List.mem_cons_self))]
/-- The map of a shelf: m0, and what is fresh. -/
structure Fr (K : List Int) (I : St) (m0 : MP) (c0 : Nat) (st : Sf) : Prop where
  nd : st.fresh.Nodup
  out : ∀ id ∈ st.fresh, m0 id = none
  inn : ∀ id ∈ st.fresh, ∃ v, st.m id = some v ∧ id = idB K I v
  old : ∀ id, id ∉ st.fresh → st.m id = m0 id
  c : st.c = c0 + st.fresh.length
  load : loadS K I m0 c0 (encs st) = some (st.m, st.c)
theorem Fr.new (K : List Int) (I : St) (m0 : MP) (c0 : Nat) (t : L6.T) : Fr K I m0 c0 ⟨t, m0, c0, []⟩ where
  nd := List.nodup_nil
  out := fun id h => by cases h
  inn := fun id h => by cases h
  old := fun _ _ => rfl
  c := rfl
  load := rfl
theorem Fr.tape {K : List Int} {I : St} {m0 : MP} {c0 : Nat} {st : Sf} (h : Fr K I m0 c0 st) (t : L6.T) : Fr K I m0 c0 { st with t := t } := ⟨h.nd, h.out, h.inn, h.old, h.c, h.load⟩
theorem Fr.rem {K : List Int} {I : St} {m0 : MP} {c0 : Nat} {st : Sf} (h : Fr K I m0 c0 st) : remSt st = ⟨st.t, m0, c0, []⟩ := by
  obtain ⟨e2, e⟩ := remS_eq st.fresh st.m st.c h.nd (fun id hid => by obtain ⟨v, hv, -⟩ := h.inn id hid; rw [hv]; rfl)
  have e1 : (remS st.m st.c st.fresh).1 = m0 := by
    funext x
    by_cases hx : x ∈ st.fresh
    · rw [(e x).1 hx, h.out x hx]
    · rw [(e x).2 hx, h.old x hx]
  unfold remSt
  rw [e1, e2, show st.c - st.fresh.length = c0 by rw [h.c]; omega]
theorem Fr.put {K : List Int} {I : St} {m0 : MP} {c0 : Nat} {st : Sf} (h : Fr K I m0 c0 st) (o : Ob) : Fr K I m0 c0 (putSt K I st o) ∧ (putSt K I st o).t = st.t ∧ (putSt K I st o).fresh.length ≤ st.fresh.length + 1 ∧
    ∀ k v, (putSt K I st o).m k = some v → st.m k = some v ∨ (objOK o = true ∧ v = objS o) := by
  obtain ⟨s, hs⟩ : ∃ s, objS o = s := ⟨_, rfl⟩
  obtain ⟨id, hid⟩ : ∃ id, idB K I s = id := ⟨_, rfl⟩
  cases hok : objOK o with
  | false =>
    have e : putSt K I st o = st := by unfold putSt; rw [hok]; rfl
    rw [e]
    exact ⟨h, rfl, by omega, fun k v hv => .inl hv⟩
  | true =>
    cases hc : clash st.m id s with
    | true =>
      have e : putSt K I st o = st := by unfold putSt; rw [hok, hs, hid, hc]; rfl
      rw [e]
      exact ⟨h, rfl, by omega, fun k v hv => .inl hv⟩
    | false =>
      have e : putSt K I st o = { st with m := addMap st.m id s, c := addCnt st.m st.c id, fresh := if (st.m id).isSome then st.fresh else st.fresh ++ [id] } := by unfold putSt; rw [hok, hs, hid, hc]; rfl
      rw [e]
      cases hf : st.m id with
      | some v =>
        have hv : v = s := by
          unfold clash at hc
          rw [hf] at hc
          simpa using hc
        subst hv
        have em : addMap st.m id v = st.m := upd_there hf
        have ec : addCnt st.m st.c id = st.c := by unfold addCnt; rw [hf]; rfl
        rw [em, ec]
        exact ⟨h, rfl, by show st.fresh.length ≤ _; omega, fun k v hv => .inl hv⟩
      | none =>
        have ec : addCnt st.m st.c id = st.c + 1 := by unfold addCnt; rw [hf]; rfl
        have em : addMap st.m id s = upd st.m id s := rfl
        rw [em, ec]
        have hnf : id ∉ st.fresh := fun hm => by obtain ⟨v, hv, -⟩ := h.inn id hm; rw [hf] at hv; cases hv
        have hen : encs ⟨st.t, upd st.m id s, st.c + 1, st.fresh ++ [id]⟩ = encs st ++ [s] := encs_upd (fun x hx => by obtain ⟨v, hv, -⟩ := h.inn x hx; rw [hv]; rfl) hf _ _
        refine ⟨⟨?_, fun x hx => ?_, fun x hx => ?_, fun x hx => ?_, ?_, ?_⟩, rfl, by show (st.fresh ++ [id]).length ≤ _; rw [List.length_append]; exact Nat.le_refl _, fun k v hv => ?_⟩
        · show (st.fresh ++ [id]).Nodup
          rw [List.nodup_append]
          exact ⟨h.nd, by simp, fun a ha b hb e => hnf (by rw [List.mem_singleton.1 hb] at e; exact e ▸ ha)⟩
        · rcases List.mem_append.1 hx with hx | hx
          · exact h.out x hx
          · rw [List.mem_singleton.1 hx, ← h.old id hnf, hf]
        · show ∃ v, upd st.m id s x = some v ∧ _
          rcases List.mem_append.1 hx with hx | hx
          · obtain ⟨v, hv, hv2⟩ := h.inn x hx
            exact ⟨v, by rw [upd_other _ _ (fun e : x = id => hnf (e ▸ hx))]; exact hv, hv2⟩
          · rw [List.mem_singleton.1 hx]
            exact ⟨s, upd_same _ _ _, hid.symm⟩
        · show upd st.m id s x = _
          have hx' : x ∉ st.fresh ∧ x ≠ id := ⟨fun hm => hx (List.mem_append_left _ hm), fun e => hx (List.mem_append_right _ (by rw [e]; exact List.mem_singleton.2 rfl))⟩
          rw [upd_other _ _ hx'.2]
          exact h.old x hx'.1
        · show st.c + 1 = c0 + (st.fresh ++ [id]).length
          rw [List.length_append, h.c]; rfl
        · show loadS K I m0 c0 (encs ⟨st.t, upd st.m id s, st.c + 1, st.fresh ++ [id]⟩) = some (upd st.m id s, st.c + 1)
          rw [hen, loadS_append, h.load]
          simp only [Option.bind_some, loadS, hid, hc, Bool.false_eq_true, if_false]
          rw [em, ec]
        · have hv' : upd st.m id s k = some v := hv
          by_cases hk : k = id
          · rw [hk, upd_same] at hv'
            injection hv' with hv'
            exact .inr ⟨rfl, by rw [hs, hv']⟩
          · rw [upd_other _ _ hk] at hv'
            exact .inl hv'

/-! ### A batch -/
theorem bat_len {c : C} {l : List ByteArray} (hc : esz c ≤ 9000) (hl : l.length ≤ 60) (hs : ∀ s ∈ l, s.size ≤ 8500) : (encC 16 (batC c l)).length ≤ 600000 ∧ (putS (batC c l)).size ≤ 600000 := by
  have hle : (encC 16 (batC c l)).length ≤ 600000 := by
    refine Nat.le_trans (enc_esz _ _) ?_
    unfold batC
    rw [esz_list, eszL_cons, eszL_cons, eszL_nil, esz_list]
    have h1 := eszL_all textC 8509 l (fun s h => by rw [esz_text]; have := hs s h; omega)
    have h2 : l.length * 8509 ≤ 60 * 8509 := Nat.mul_le_mul_right _ hl
    omega
  refine ⟨hle, ?_⟩
  unfold putS
  split
  · show (encC 16 (batC c l)).toArray.size ≤ _
    rw [List.size_toArray]; exact hle
  · show (0 : Nat) ≤ _; omega
structure BtK (r : Bt) : Prop where
  ok : BtOk r
  len : r.2.length ≤ 60
  sz : ∀ s ∈ r.2, s.size ≤ 8500
theorem bat_k {c : C} {l : List ByteArray} (hc : esz c ≤ 9000) (hf : ∀ D, Fit D c) (hl : l.length ≤ 60) (hs : ∀ s ∈ l, s.size ≤ 8500 ∧ EncOk s) (h1 : comOK c = true) (h2 : putE (batC c l) = 0) : BtK (c, l) := by
  have hok : okC 16 (batC c l) = true := by
    unfold putE at h2
    cases h : okC 16 (batC c l) with
    | true => rfl
    | false => rw [h] at h2; cases h2
  unfold comOK at h1
  rw [Bool.and_eq_true, decide_eq_true_eq] at h1
  refine ⟨⟨⟨hok, ?_, h1.1, h1.2⟩, Nat.le_trans (bat_len hc hl (fun s h => (hs s h).1)).2 (by omega), fun s h => (hs s h).2⟩, hl, fun s h => (hs s h).1⟩
  refine fit_list 15 fun x hx => ?_
  rcases List.mem_cons.1 hx with rfl | hx
  · exact hf 15
  · rw [List.mem_singleton.1 hx]
    refine fit_list 14 fun y hy => ?_
    obtain ⟨s, -, rfl⟩ := List.mem_map.1 hy
    exact fit_text 13 s

theorem loadS_vals (K : List Int) (I : St) : ∀ (l : List ByteArray) (m : MP) (c : Nat) (x : MP × Nat), loadS K I m c l = some x → ∀ k v, x.1 k = some v → m k = some v ∨ v ∈ l
  | [], m, c, x, h, k, v, hv => by injection h with h; subst h; exact .inl hv
  | s :: l, m, c, x, h, k, v, hv => by
    rw [loadS] at h
    split at h
    · cases h
    rcases loadS_vals K I l _ _ x h k v hv with h1 | h1
    · have h1' : upd m (idB K I s) s k = some v := h1
      by_cases hk : k = idB K I s
      · rw [hk, upd_same] at h1'
        injection h1' with h1'
        exact .inr (by rw [h1']; exact List.mem_cons_self)
      · rw [upd_other _ _ hk] at h1'
        exact .inl h1'
    · exact .inr (List.mem_cons_of_mem _ h1)
theorem allE_append (R R' : List Bt) : allE (R ++ R') = allE R ++ allE R' := by simp [allE]
theorem allE_len : ∀ (R : List Bt), (∀ r ∈ R, r.2.length ≤ 60) → (allE R).length ≤ R.length * 60
  | [], _ => Nat.le_refl _
  | r :: R, h => by
    have h1 := allE_len R (fun x hx => h x (List.mem_cons_of_mem _ hx))
    have h2 := h r List.mem_cons_self
    show (r.2 ++ allE R).length ≤ (R.length + 1) * 60
    rw [List.length_append]; omega

/-! ### Between two acts -/
structure Ks (K : List Int) (I : St) (n i : Nat) (B : List Bt) (sure : Nat) (d : L6.D) (st : Sf) (m0 : MP) (c0 : Nat) : Prop where
  kp : L6.KP n (B.map btS) sure d st.t
  e0 : st.t.err = 0 → B.length = sure ∧ st.t.count = sure
  e9 : st.t.err ≠ 0 → st.t.err = 9 ∧ B.length = sure + 1
  ok : ∀ r ∈ B, BtK r
  base : loadS K I (fun _ => none) 0 (allE (B.take sure)) = some (m0, c0)
  all : ∃ x, loadS K I (fun _ => none) 0 (allE B) = some x
  fr : Fr K I m0 c0 st
  vs : ∀ k v, st.m k = some v → v.size ≤ 8500 ∧ EncOk v
  ms : ∀ k v, m0 k = some v → v.size ≤ 8500 ∧ EncOk v
  life : st.t.life ≤ i + 1
  fl : st.fresh.length ≤ i
  bn : B.length ≤ i
section
variable {K : List Int} {I : St} {n i : Nat} {B : List Bt} {sure : Nat} {d : L6.D} {st : Sf} {m0 : MP} {c0 : Nat}
theorem Ks.new (K : List Int) (I : St) (n : Nat) (h2 : n ≤ 200) : Ks K I n 0 [] 0 (L6.newD n) ⟨L6.openT (L6.newD n), fun _ => none, 0, []⟩ (fun _ => none) 0 := by
  obtain ⟨h1, h3⟩ := L6.KP.new n h2
  have hs := (L6.Wh.new n).2.2
  exact ⟨h1, fun _ => ⟨rfl, by show (L6.scanD (L6.newD n)).recs.length = 0; rw [hs]; rfl⟩, fun h => absurd rfl h, fun r hr => (by cases hr), rfl, ⟨_, rfl⟩, Fr.new K I _ 0 _, fun k v h => (by cases h), fun k v h => (by cases h), by show (L6.openT (L6.newD n)).life ≤ 0 + 1; omega, Nat.le_refl _, Nat.le_refl _⟩
theorem Ks.sure_le (h : Ks K I n i B sure d st m0 c0) : sure ≤ B.length ∧ B.length ≤ sure + 1 := by
  by_cases he : st.t.err = 0
  · have := (h.e0 he).1; omega
  · have := (h.e9 he).2; omega
theorem Ks.c_le (h : Ks K I n i B sure d st m0 c0) (hi : i ≤ 60) : st.c ≤ 4000 := by
  have h1 := loadS_cnt K I _ _ _ _ h.base
  have h2 := allE_len (B.take sure) (fun r hr => (h.ok r (List.mem_of_mem_take hr)).len)
  have h3 : (B.take sure).length ≤ 60 := by rw [List.length_take]; have := h.bn; omega
  have h4 : (B.take sure).length * 60 ≤ 60 * 60 := Nat.mul_le_mul_right _ h3
  have h5 := h.fr.c
  have h6 := h.fl
  have h7 : c0 ≤ 0 + (allE (B.take sure)).length := h1
  omega
theorem Ks.more (h : Ks K I n i B sure d st m0 c0) : Ks K I n (i + 1) B sure d st m0 c0 := { h with life := Nat.le_succ_of_le h.life, fl := Nat.le_succ_of_le h.fl, bn := Nat.le_succ_of_le h.bn }
theorem Ks.put (h : Ks K I n i B sure d st m0 c0) {o : Ob} (ho : ObOk o) : Ks K I n (i + 1) B sure d (putSt K I st o) m0 c0 := by
  obtain ⟨f1, f2, f3, f4⟩ := h.fr.put o
  refine ⟨by rw [f2]; exact h.kp, by rw [f2]; exact h.e0, by rw [f2]; exact h.e9, h.ok, h.base, h.all, f1, fun k v hv => ?_, h.ms, by rw [f2]; exact Nat.le_succ_of_le h.life, Nat.le_trans f3 (Nat.succ_le_succ h.fl), Nat.le_succ_of_le h.bn⟩
  rcases f4 k v hv with h1 | ⟨h1, rfl⟩
  · exact h.vs k v h1
  · have hs := obj_small h1 ho.kids
    exact ⟨hs, by omega, by rw [obj_take h1 ho.nr ho.fb]⟩
theorem Ks.drop (h : Ks K I n i B sure d st m0 c0) : Ks K I n (i + 1) B sure d (remSt st) m0 c0 := by
  rw [h.fr.rem]
  exact ⟨h.kp, h.e0, h.e9, h.ok, h.base, h.all, Fr.new K I m0 c0 _, h.ms, h.ms, Nat.le_succ_of_le h.life, Nat.zero_le _, Nat.le_succ_of_le h.bn⟩
theorem Ks.arm (h : Ks K I n i B sure d st m0 c0) (k : Int) : Ks K I n (i + 1) B sure (L6.armD d k) st m0 c0 := { h.more with kp := h.kp.arm k }
theorem Ks.encsOk (h : Ks K I n i B sure d st m0 c0) : ∀ s ∈ encs st, s.size ≤ 8500 ∧ EncOk s := by
  intro s hs
  unfold encs at hs
  obtain ⟨id, hid, rfl⟩ := List.mem_map.1 hs
  obtain ⟨v, hv, -⟩ := h.fr.inn id hid
  rw [hv]
  exact h.vs id v hv
theorem Ks.crash (h : Ks K I n i B sure d st m0 c0) (hi : i ≤ 60) (keep : List Int) :
    ∃ (m : Nat) (x : MP × Nat), sure ≤ m ∧ m ≤ B.length ∧ L6.openE (L6.crashD d keep) = 0 ∧ (L6.scanD (L6.crashD d keep)).recs = (B.take m).map btS ∧ loadS K I (fun _ => none) 0 (allE (B.take m)) = some x ∧
      Ks K I n (i + 1) (B.take m) m (L6.crashD d keep) ⟨L6.openT (L6.crashD d keep), x.1, x.2, []⟩ x.1 x.2 := by
  obtain ⟨a1, a2, a3, -, a5, -, a7⟩ := h.kp.crash (by have := h.life; omega) keep
  obtain ⟨m, hm⟩ : ∃ m, (L6.scanD (L6.crashD d keep)).recs.length = m := ⟨_, rfl⟩
  rw [hm] at a2 a3 a7
  have hr : (L6.scanD (L6.crashD d keep)).recs = (B.take m).map btS := by rw [← a2, List.map_take]
  have hmB : m ≤ B.length := by
    have := congrArg List.length a2
    rw [hm, List.length_take, List.length_map] at this
    omega
  obtain ⟨y, hy⟩ := h.all
  have hsp : allE B = allE (B.take m) ++ allE (B.drop m) := by rw [← allE_append, List.take_append_drop]
  rw [hsp, loadS_append] at hy
  obtain ⟨x, hx⟩ : ∃ x, loadS K I (fun _ => none) 0 (allE (B.take m)) = some x := by
    cases hq : loadS K I (fun _ => none) 0 (allE (B.take m)) with
    | none => rw [hq] at hy; cases hy
    | some x => exact ⟨x, rfl⟩
  have hlen : (B.take m).length = m := by rw [List.length_take]; omega
  have hvs : ∀ k v, x.1 k = some v → v.size ≤ 8500 ∧ EncOk v := fun k v hv => by
    rcases loadS_vals K I _ _ _ _ hx k v hv with h1 | h1
    · cases h1
    · unfold allE at h1
      obtain ⟨r, hr, hvr⟩ := List.mem_flatMap.1 h1
      have hk := h.ok r (List.mem_of_mem_take hr)
      exact ⟨hk.sz v hvr, hk.ok.enc v hvr⟩
  refine ⟨m, x, a3, hmB, a1, hr, hx, ⟨by rw [hr] at a7; exact a7, fun _ => ⟨hlen, hm⟩, fun he => absurd rfl he, fun r hr => h.ok r (List.mem_of_mem_take hr), ?_, ⟨x, hx⟩, Fr.new K I x.1 x.2 _, hvs, hvs, ?_, Nat.zero_le _, ?_⟩⟩
  · rw [List.take_of_length_le (by omega)]; exact hx
  · show (L6.openT (L6.crashD d keep)).life ≤ i + 1 + 1
    have := h.life
    omega
  · rw [hlen]; have := h.bn; omega
end
end Go.Proofs.YtjanddnlhaionaaGreatDoor
