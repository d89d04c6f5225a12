/-
  A map of strings in memory, as a plain function of its keys. No condition.
-/
import Derived.Test.YtjanddnlhaionaaGreatDoorProg
import Derived.Maps.OwnSet
import Derived.Maps.StringElems
import Derived.Lib.Hide
import Derived.ProofKit
namespace Go.Proofs.YtjanddnlhaionaaGreatDoor
open Go.RowKit Go.Maps Go.WideShapes

abbrev MP := ByteArray → Option ByteArray
def upd (m : MP) (k v : ByteArray) : MP := fun x => if x = k then some v else m x
def era (m : MP) (k : ByteArray) : MP := fun x => if x = k then none else m x
theorem upd_same (m : MP) (k v : ByteArray) : upd m k v k = some v := by unfold upd; rw [if_pos rfl]
theorem upd_other (m : MP) {k x : ByteArray} (v : ByteArray) (h : x ≠ k) : upd m k v x = m x := by unfold upd; rw [if_neg h]
theorem upd_there {m : MP} {k v : ByteArray} (h : m k = some v) : upd m k v = m := by
  funext x
  unfold upd
  split
  · rename_i e; rw [e, h]
  · rfl
theorem era_same (m : MP) (k : ByteArray) : era m k k = none := by unfold era; rw [if_pos rfl]
theorem era_other (m : MP) {k x : ByteArray} (h : x ≠ k) : era m k x = m x := by unfold era; rw [if_neg h]

def kl (s : ByteArray) : Lit := .string s.data.toList
theorem kl_inj {s t : ByteArray} (h : kl s = kl t) : s = t := by
  unfold kl at h
  injection h with h
  cases s; cases t
  rw [ByteArray.mk.injEq]
  exact Array.toList_inj.1 h
theorem kl_key (s : ByteArray) : WideAt.IsKeyLit (kl s) := by unfold kl; trivial
def dl (v : ByteArray) : DataW Unit := .lit (.string v.data.toList)

/-- Block b is a map of c entries that holds what m says. -/
def MAt (P : Program) (ty : TypeId) (w : World) (b : Nat) (m : MP) (c : Nat) : Prop :=
  ∃ D : DataW Unit, w.ownsMap P ty (plainElem P ty) b c D ∧ Maps.size D = c ∧ Maps.Tidy D ∧ ∀ s, (Maps.has D (kl s) = (m s).isSome) ∧ ∀ v, m s = some v → v.size ≤ maxLen ∧ ∀ z, D.atKey (kl s) z = dl v
section
variable {P : Program} {ty mt : TypeId} {w : World} {b c : Nat} {m : MP}
theorem MAt.made (w : World) : MAt P ty (w.alloc (.map #[] 0)) w.heap.size (fun _ => none) 0 :=
  ⟨.map [], World.ownsMap_made w P ty _, rfl, Maps.tidy_empty, fun s => ⟨rfl, fun v h => by cases h⟩⟩
theorem MAt.lt (h : MAt P ty w b m c) : b < w.heap.size := by
  obtain ⟨D, h, -⟩ := h
  exact h.lt
theorem MAt.isMap (h : MAt P ty w b m c) : ∃ es clock, w.heap[b]? = some (.map es clock) := by
  obtain ⟨D, ⟨es, clock, h, -⟩, -⟩ := h
  exact ⟨es, clock, h⟩
theorem MAt.keep {w' : World} (h : MAt P ty w b m c) (hb : w'.heap[b]? = w.heap[b]?) : MAt P ty w' b m c := by
  obtain ⟨D, ⟨es, clock, h, h2⟩, h3⟩ := h
  exact ⟨D, ⟨es, clock, hb.trans h, h2⟩, h3⟩
theorem MAt.look (hs : P.underlying ty = some .string) (hm : P.underlying mt = some (.map ty ty)) (hz : (zeroValue ty).run P w = .ok (.string ⟨#[]⟩) w) (h : MAt P ty w b m c) (s : ByteArray) (hk : s.size ≤ maxLen) :
    (Instr.lookup mt (.map (some b)) (.string s) true).run P w = .ok (.tuple #[.string ((m s).getD ⟨#[]⟩), .bool (m s).isSome]) w ∧ (Instr.lookup mt (.map (some b)) (.string s) false).run P w = .ok (.string ((m s).getD ⟨#[]⟩)) w := by
  obtain ⟨D, ho, -, -, hD⟩ := h
  obtain ⟨h1, h2⟩ := hD s
  have hkey : keyOf P ty (.string s) = some (kl s) := Go.WideMaps.keyOf_string_mk hs hk
  have H : ∀ (v : Value) (ps : List MemPlace), plainElem P ty v = some (D.atKey (kl s) (dl ⟨#[]⟩), ps) → v = .string ((m s).getD ⟨#[]⟩) := by
    intro v ps hv
    obtain ⟨x, rfl, hx, -⟩ := plainElem_string_inv hs hv
    have hx1 := congrArg Prod.fst hx
    cases hms : m s with
    | some y =>
      rw [(h2 y hms).2] at hx1
      have : y = x := kl_inj (by unfold dl at hx1; injection hx1)
      rw [this]; rfl
    | none =>
      rw [hms] at h1
      have hx1 : D.atKey (kl s) (dl ⟨#[]⟩) = .lit (.string x.data.toList) := hx1
      rw [Maps.atKey_of_not_has h1] at hx1
      have : (⟨#[]⟩ : ByteArray) = x := kl_inj (by unfold dl at hx1; injection hx1)
      rw [← this]; rfl
  have hzd : plainElem (H := Unit) P ty (.string ⟨#[]⟩) = some (dl ⟨#[]⟩, []) := plainElem_string hs (by show 0 ≤ maxLen; exact Nat.zero_le _)
  obtain ⟨v, ps, r1, r2⟩ := ho.look_ok (string_keyed hs) hm hz hzd hkey
  obtain ⟨v', ps', r3, r4⟩ := ho.lookup (string_keyed hs) hm hz hzd hkey
  rw [H v ps r2, h1] at r1
  rw [H v' ps' r4] at r3
  exact ⟨r1, r3⟩
theorem MAt.len (hm : P.underlying mt = some (.map ty ty)) (h : MAt P ty w b m c) (t : TypeId) : (Builtin.len_ #[mt] t #[.map (some b)]).run P w = .ok (.int .i64 (c : Int)) w := by
  obtain ⟨D, ho, hc, -⟩ := h
  rw [ho.len hm t, hc]
theorem MAt.tight {D : DataW Unit} {n : Nat} (h : w.ownsMap P ty (plainElem P ty) b n D) : w.ownsMap P ty (plainElem P ty) b (Maps.size D) D := by
  obtain ⟨es, clock, hb, F, hs, rfl⟩ := h
  exact ⟨es, clock, hb, F, by simp [Maps.size, length_sorted], rfl⟩
theorem MAt.store (hs : P.underlying ty = some .string) (hm : P.underlying mt = some (.map ty ty)) (h : MAt P ty w b m c) (hc : c < maxLen) (s v : ByteArray) (hk : s.size ≤ maxLen) (hv : v.size ≤ maxLen) :
    ∃ w', (Instr.mapUpdate mt (.map (some b)) (.string s) (.string v)).run P w = .ok () w' ∧ MAt P ty w' b (upd m s v) (if (m s).isSome then c else c + 1) ∧ w.mapTurned w' b := by
  obtain ⟨D, ho, hsz, ht, hD⟩ := h
  have hkey : keyOf P ty (.string s) = some (kl s) := Go.WideMaps.keyOf_string_mk hs hk
  have hval : plainElem (H := Unit) P ty (.string v) = some (dl v, []) := plainElem_string hs hv
  obtain ⟨w', r1, r2, r3⟩ := ho.store (string_keyed hs) hm hc hkey hval
  have hsz' : Maps.size (D.put (kl s) (dl v)) = if (m s).isSome then c else c + 1 := by rw [Maps.size_put ht, (hD s).1, hsz]
  refine ⟨w', r1, ⟨_, hsz' ▸ MAt.tight r2, hsz', ht.put (kl_key s) _, fun x => ?_⟩, r3⟩
  by_cases hx : x = s
  · subst hx
    rw [upd_same, Maps.has_put_same ht.isMap (kl_key x)]
    exact ⟨rfl, fun u hu => by cases hu; exact ⟨hv, fun z => Maps.atKey_put_same ht.isMap (kl_key x) _ z⟩⟩
  · have hne : kl x ≠ kl s := fun e => hx (kl_inj e)
    rw [upd_other m v hx, Maps.has_put_other hne]
    exact ⟨(hD x).1, fun u hu => ⟨((hD x).2 u hu).1, fun z => by rw [Maps.atKey_put_other hne]; exact ((hD x).2 u hu).2 z⟩⟩
theorem MAt.drop (hs : P.underlying ty = some .string) (hm : P.underlying mt = some (.map ty ty)) (h : MAt P ty w b m c) (s : ByteArray) (hk : s.size ≤ maxLen) (t : TypeId) :
    ∃ w', (Builtin.delete_ #[mt, ty] t #[.map (some b), .string s]).run P w = .ok (.tuple #[]) w' ∧ MAt P ty w' b (era m s) (if (m s).isSome then c - 1 else c) ∧ w.mapTurned w' b := by
  obtain ⟨D, ho, hsz, ht, hD⟩ := h
  have hkey : keyOf P ty (.string s) = some (kl s) := Go.WideMaps.keyOf_string_mk hs hk
  obtain ⟨w', r1, r2, r3⟩ := ho.drop (string_keyed hs) hm hkey t
  have hsz' : Maps.size (D.del (kl s)) = if (m s).isSome then c - 1 else c := by
    have := Maps.size_del ht (k := kl s)
    rw [(hD s).1, hsz] at this
    split <;> simp_all <;> omega
  refine ⟨w', r1, ⟨_, hsz' ▸ MAt.tight r2, hsz', ht.del _, fun x => ?_⟩, r3⟩
  by_cases hx : x = s
  · subst hx
    rw [era_same, Maps.has_del_same]
    exact ⟨rfl, fun u hu => by cases hu⟩
  · have hne : kl x ≠ kl s := fun e => hx (kl_inj e)
    rw [era_other m hx, Maps.has_del_other hne]
    exact ⟨(hD x).1, fun u hu => ⟨((hD x).2 u hu).1, fun z => by rw [Maps.atKey_del_other hne]; exact ((hD x).2 u hu).2 z⟩⟩
end
end Go.Proofs.YtjanddnlhaionaaGreatDoor
