/-
  A shelf that only grows: its plain states. No condition.
-/
import Derived.Test.YtjanddnlhaionaaGreatDoorSR
namespace Go.Proofs.YtjanddnlhaionaaGreatDoor
open Go.RowKit
open L3 (Tabs St)
open L4 (C okC encC putS putE)
open L2 (Row)

/-- An object of the law. -/
structure ObOk (o : Ob) : Prop where
  kids : o.kids.length ≤ 60
  fb : ∀ k ∈ o.kids, 0 ≤ k.f ∧ k.f ≤ 255
  nr : ∀ r ∈ o.rows, -9223372036854775808 ≤ r.2.2.2.1 ∧ r.2.2.2.1 ≤ 9223372036854775807

/-- What a shelf holds after i objects were put, none of which clashed. -/
structure Grow (K : List Int) (I : St) (l : List Ob) (i : Nat) (ids : List ByteArray) (st : Sf) : Prop where
  len : ids.length = i
  c : st.c ≤ i
  t : st.t = L6.openT (L6.newD 4000)
  ids : ∀ j (h : j < l.length), j < i → ids[j]? = some (if objOK l[j] then idB K I (objS l[j]) else ⟨#[]⟩)
  map : ∀ j (h : j < l.length), j < i → objOK l[j] = true → st.m (idB K I (objS l[j])) = some (objS l[j])
  all : ∀ k v, st.m k = some v → ∃ j, ∃ h : j < l.length, j < i ∧ objOK l[j] = true ∧ v = objS l[j] ∧ k = idB K I v
  fr : st.fresh.length = st.c
  frm : ∀ id ∈ st.fresh, ∃ v, st.m id = some v ∧ id = idB K I v
  load : loadS K I (fun _ => none) 0 (encs st) = some (st.m, st.c)
theorem Grow.start (K : List Int) (I : St) (l : List Ob) : Grow K I l 0 [] ⟨L6.openT (L6.newD 4000), fun _ => none, 0, []⟩ :=
  { len := rfl
    c := Nat.le_refl _
    t := rfl
    ids := fun j _ h => absurd h (Nat.not_lt_zero _)
    map := fun j _ h => absurd h (Nat.not_lt_zero _)
    all := fun k v h => by cases h
    fr := rfl
    frm := fun id h => by cases h
    load := rfl }
theorem encs_upd {st : Sf} {id s : ByteArray} (h : ∀ x ∈ st.fresh, (st.m x).isSome = true) (hn : st.m id = none) (t : L6.T) (c : Nat) : encs ⟨t, upd st.m id s, c, st.fresh ++ [id]⟩ = encs st ++ [s] := by
  unfold encs
  rw [List.map_append]
  congr 1
  · refine List.map_congr_left fun x hx => ?_
    have hne : x ≠ id := by
      rintro rfl
      have := h x hx
      rw [hn] at this
      cases this
    show (upd st.m id s x).getD _ = _
    rw [upd_other _ _ hne]
  · show [((upd st.m id s) id).getD _] = _
    rw [upd_same]; rfl
theorem Grow.put {K : List Int} {I : St} {l : List Ob} {i : Nat} {ids : List ByteArray} {st : Sf} (h : Grow K I l i ids st) (hi : i < l.length) (hcl : putEr K I st l[i] ≠ 22) :
    Grow K I l (i + 1) (ids ++ [if objOK l[i] then idB K I (objS l[i]) else ⟨#[]⟩]) (putSt K I st l[i]) ∧ putId K I st l[i] = (if objOK l[i] then idB K I (objS l[i]) else ⟨#[]⟩) ∧ putEr K I st l[i] = (if objOK l[i] then 0 else 2) ∧
      putId K I (putSt K I st l[i]) l[i] = putId K I st l[i] ∧ putEr K I (putSt K I st l[i]) l[i] = putEr K I st l[i] ∧ putSt K I (putSt K I st l[i]) l[i] = putSt K I st l[i] := by
  have hids : ∀ x, (ids ++ [x])[i]? = some x := fun x => by rw [List.getElem?_append_right (by rw [h.len]; exact Nat.le_refl _), h.len, Nat.sub_self]; rfl
  have hidl : ∀ x j (hj : j < l.length), j < i → (ids ++ [x])[j]? = some (if objOK l[j] then idB K I (objS l[j]) else ⟨#[]⟩) := fun x j hj hji => by rw [List.getElem?_append_left (by rw [h.len]; exact hji)]; exact h.ids j hj hji
  have hlt : ∀ {j}, j < i + 1 → j ≠ i → j < i := fun h1 h2 => by omega
  cases hok : objOK l[i] with
  | false =>
    have e1 : putId K I st l[i] = ⟨#[]⟩ := by unfold putId; rw [hok]; rfl
    have e2 : putEr K I st l[i] = 2 := by unfold putEr; rw [hok]; rfl
    have e3 : putSt K I st l[i] = st := by unfold putSt; rw [hok]; rfl
    rw [e3, e1, e2]
    simp only [Bool.false_eq_true, if_false]
    refine ⟨⟨by rw [List.length_append, h.len]; rfl, by have := h.c; omega, h.t, fun j hj hji => ?_, fun j hj hji hjo => ?_, fun k v hv => ?_, h.fr, h.frm, h.load⟩, ?_⟩
    rotate_right
    · simp [e3]
    · by_cases e : j = i
      · subst e; rw [hids, hok]; rfl
      · exact hidl _ j hj (hlt hji e)
    · by_cases e : j = i
      · subst e; rw [hok] at hjo; cases hjo
      · exact h.map j hj (hlt hji e) hjo
    · obtain ⟨j, hj, h1, h2⟩ := h.all k v hv
      exact ⟨j, hj, by omega, h2⟩
  | true =>
    simp only [if_true]
    obtain ⟨s, hs⟩ : ∃ s, objS l[i] = s := ⟨_, rfl⟩
    obtain ⟨id, hid⟩ : ∃ id, idB K I s = id := ⟨_, rfl⟩
    have hc : clash st.m id s = false := by
      cases hq : clash st.m id s with
      | false => rfl
      | true => exact absurd (by unfold putEr; rw [hok, hs, hid, hq]; rfl) hcl
    have e1 : putId K I st l[i] = id := by unfold putId; rw [hok, hs, hid, hc]; rfl
    have e2 : putEr K I st l[i] = 0 := by unfold putEr; rw [hok, hs, hid, hc]; rfl
    have e3 : putSt K I st l[i] = { st with m := addMap st.m id s, c := addCnt st.m st.c id, fresh := if (st.m id).isSome then st.fresh else st.fresh ++ [id] } := by unfold putSt; rw [hok, hs, hid, hc]; rfl
    have hm' : (putSt K I st l[i]).m id = some s := by rw [e3]; exact upd_same _ _ _
    have hc' : clash (putSt K I st l[i]).m id s = false := by unfold clash; rw [hm']; simp
    have e4 : putId K I (putSt K I st l[i]) l[i] = id := by unfold putId; rw [hok, hs, hid, hc']; rfl
    have e5 : putEr K I (putSt K I st l[i]) l[i] = 0 := by unfold putEr; rw [hok, hs, hid, hc']; rfl
    have e6 : putSt K I (putSt K I st l[i]) l[i] = putSt K I st l[i] := by
      generalize hq : putSt K I st l[i] = q at hm' hc'
      unfold putSt
      rw [hok, hs, hid, hc']
      simp only [if_true, Bool.false_eq_true, if_false, hm', Option.isSome_some]
      unfold addMap addCnt
      rw [upd_there hm', hm']
      rfl
    rw [hs, hid, e1, e2, e4, e5, e6]
    refine ⟨?_, rfl, rfl, rfl, rfl, rfl⟩
    rw [e3]
    cases hf : st.m id with
    | some v =>
      have hv : v = s := by
        unfold clash at hc
        rw [hf] at hc
        simpa using hc
      subst hv
      simp only [Option.isSome_some, if_true]
      have em : addMap st.m id v = st.m := upd_there hf
      have ec : addCnt st.m st.c id = st.c := by unfold addCnt; rw [hf]; rfl
      rw [em, ec]
      refine ⟨by rw [List.length_append, h.len]; rfl, by have := h.c; show st.c ≤ _; omega, h.t, fun j hj hji => ?_, fun j hj hji hjo => ?_, fun k v' hv => ?_, h.fr, h.frm, h.load⟩
      · by_cases e : j = i
        · subst e; rw [hids, hok, hs, hid]; rfl
        · exact hidl _ j hj (hlt hji e)
      · by_cases e : j = i
        · subst e; rw [hs, hid]; exact hf
        · exact h.map j hj (hlt hji e) hjo
      · obtain ⟨j, hj, h1, h2⟩ := h.all k v' hv
        exact ⟨j, hj, by omega, h2⟩
    | none =>
      simp only [Option.isSome_none, Bool.false_eq_true, if_false]
      have em : addMap st.m id s = upd st.m id s := rfl
      have ec : addCnt st.m st.c id = st.c + 1 := by unfold addCnt; rw [hf]; rfl
      rw [em, ec]
      have hen : encs ⟨st.t, upd st.m id s, st.c + 1, st.fresh ++ [id]⟩ = encs st ++ [s] := encs_upd (fun x hx => by obtain ⟨v, hv, -⟩ := h.frm x hx; rw [hv]; rfl) hf _ _
      refine ⟨by rw [List.length_append, h.len]; rfl, by have := h.c; show st.c + 1 ≤ _; omega, h.t, fun j hj hji => ?_, fun j hj hji hjo => ?_, fun k v hv => ?_, by show (st.fresh ++ [id]).length = st.c + 1; rw [List.length_append, h.fr]; rfl, fun x hx => ?_, ?_⟩
      · by_cases e : j = i
        · subst e; rw [hids, hok, hs, hid]; rfl
        · exact hidl _ j hj (hlt hji e)
      · show upd st.m id s _ = _
        by_cases e : j = i
        · subst e; rw [hs, hid]; exact upd_same _ _ _
        · have h1 := h.map j hj (hlt hji e) hjo
          rw [upd_other _ _ (fun e' => by rw [e', hf] at h1; cases h1)]
          exact h1
      · have hv : upd st.m id s k = some v := hv
        by_cases hk : k = id
        · rw [hk, upd_same] at hv
          injection hv with hv
          exact ⟨i, hi, by omega, hok, by rw [hs, hv], by rw [hk, ← hv, hid]⟩
        · rw [upd_other _ _ hk] at hv
          obtain ⟨j, hj, h1, h2⟩ := h.all k v hv
          exact ⟨j, hj, by omega, h2⟩
      · show ∃ v, upd st.m id s x = some v ∧ _
        rcases List.mem_append.1 hx with hx | hx
        · obtain ⟨v, hv, hv2⟩ := h.frm x hx
          refine ⟨v, ?_, hv2⟩
          rw [upd_other _ _ (fun e => by rw [e, hf] at hv; cases hv)]
          exact hv
        · rw [List.mem_singleton.1 hx]
          exact ⟨s, upd_same _ _ _, hid.symm⟩
      · rw [hen, loadS_append, h.load]
        simp only [Option.bind_some, loadS, hid, hc, Bool.false_eq_true, if_false]
        rw [em, ec]
end Go.Proofs.YtjanddnlhaionaaGreatDoor
