/-
  A shelf that only grows: its plain states. No condition.
-/
import Derived.Test.YtjanddnlhaionaaGreatDoorSR
namespace Go.Proofs.YtjanddnlhaionaaGreatDoor
open Go.RowKit
open L3 (Tabs St)
open L4 (C okC encC putS putE)
open L2 (Row)

/-- An object of the law. -/
structure ObOk (o : Ob) : Prop where
  kids : o.kids.length ≤ 60
  fb : ∀ k ∈ o.kids, 0 ≤ k.f ∧ k.f ≤ 255
  nr : ∀ r ∈ o.rows, -9223372036854775808 ≤ r.2.2.2.1 ∧ r.2.2.2.1 ≤ 9223372036854775807

/-- What a shelf holds after i objects were put, none of which clashed. -/
structure Grow (K : List Int) (I : St) (l : List Ob) (i : Nat) (ids : List ByteArray) (st : Sf) : Prop where
  len : ids.length = i
  c : st.c ≤ i
  t : st.t = L6.openT (L6.newD 4000)
  ids : ∀ j (h : j < l.length), j < i → ids[j]? = some (if objOK l[j] then idB K I (objS l[j]) else ⟨#[]⟩)
  map : ∀ j (h : j < l.length), j < i → objOK l[j] = true → st.m (idB K I (objS l[j])) = some (objS l[j])
  all : ∀ k v, st.m k = some v → ∃ j, ∃ h : j < l.length, j < i ∧ objOK l[j] = true ∧ v = objS l[j] ∧ k = idB K I v
  fr : st.fresh.length = st.c
  frm : ∀ id ∈ st.fresh, ∃ v, st.m id = some v ∧ id = idB K I v
  load : loadS K I (fun _ => none) 0 (encs st) = some (st.m, st.c)
theorem encs_upd {st : Sf} {id s : ByteArray} (h : ∀ x ∈ st.fresh, (st.m x).isSome = true) (hn : st.m id = none) (t : L6.T) (c : Nat) : encs ⟨t, upd st.m id s, c, st.fresh ++ [id]⟩ = encs st ++ [s] := by
  unfold encs
  rw [List.map_append]
  congr 1
  · refine List.map_congr_left fun x hx => ?_
    have hne : x ≠ id := by
      rintro rfl
      have := h x hx
      rw [hn] at this
      cases this
    show (upd st.m id s x).getD _ = _
    rw [upd_other _ _ hne]
  · show [((upd st.m id s) id).getD _] = _
    rw [upd_same]; rfl
end Go.Proofs.YtjanddnlhaionaaGreatDoor
