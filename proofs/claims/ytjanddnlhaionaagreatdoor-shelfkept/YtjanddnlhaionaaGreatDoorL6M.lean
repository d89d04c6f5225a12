/-
  Contract of Copy. No condition.
-/
import Derived.Test.YtjanddnlhaionaaGreatDoorL6K
import Derived.OwnWalk
import Derived.Deep.Cut
import Derived.Deep.DeepMust
namespace Go.Proofs.YtjanddnlhaionaaGreatDoor.L6
open Go.RowKit

set_option maxRecDepth 100000 in
theorem row_base {w : World} {B B' : Nat} {e : TypeId} {m : Nat} {v : Value} {n : Nat} {xs : List Value} (h : w.ownsRow B e m v n xs) (hB : B' ≤ B) : w.ownsRow B' e m v n xs := by
  refine ⟨h.1, ?_⟩
  rcases h.2 with h0 | ⟨g, cap, cur, hv, hb, r⟩
  · exact .inl h0
  · exact .inr ⟨g, cap, cur, hv, Nat.le_trans hB hb, r⟩
set_option maxRecDepth 100000 in
theorem row_ge {w : World} {B : Nat} {e : TypeId} {m : Nat} {v : Value} {n : Nat} {xs : List Value} (h : w.ownsRow B e m v n xs) {k : Nat} (hk : v.ownBlock = some k) : B ≤ k := (h.lt k hk).1
set_option maxRecDepth 100000 in
theorem row_news {w : World} {B : Nat} {e : TypeId} {m : Nat} {g n c : Nat} {xs : List Value} (h : w.ownsRow B e m (.slice (some ⟨g, 0, none⟩) n c) n xs) : ∀ j u, xs[j]? = some u → w.cell? ((⟨g, 0, none⟩ : Addr).add j) = some u := h.cells rfl
set_option maxRecDepth 100000 in
theorem own_ne {v : Value} {b k : Nat} (h : v.ownBlock ≠ some b) (hk : v.ownBlock = some k) : k ≠ b := fun e => h (by rw [hk, e])
set_option maxRecDepth 100000 in
theorem secs_one (S : List ByteArray) : ∀ u ∈ secCells S, u.oneCell' = true := by
  intro u hu
  obtain ⟨s, _, hu⟩ := List.mem_flatMap.1 hu
  exact bytes_oneCell _ u hu
set_option maxRecDepth 100000 in
theorem pens_one (W : List (Nat × ByteArray)) : ∀ u ∈ penCells W, u.oneCell' = true := by
  intro u hu
  obtain ⟨p, _, hu⟩ := List.mem_flatMap.1 hu
  rcases List.mem_cons.1 hu with rfl | hu
  · rfl
  · exact bytes_oneCell _ u hu

set_option maxRecDepth 100000 in
/-- A drum laid anew: two rows of its own, and its block. -/
theorem PAt.made {w w' : World} {b : Nat} {d : D} {v1 v2 : Value} (hok : Ok d) (hb : w.heap.size ≤ b)
    (hr : w'.heap[b]? = some (.cells #[v1, v2, .int .i64 d.fuse, .bool d.gone] 120 (0, 0))) (o1 : w'.ownsRow w.heap.size 144 64 v1 d.S.length (secCells d.S)) (o2 : w'.ownsRow w.heap.size 146 65 v2 d.W.length (penCells d.W))
    (n1 : v1.ownBlock ≠ some b) (n2 : v2.ownBlock ≠ some b) (n12 : ∀ k, v1.ownBlock = some k → v2.ownBlock ≠ some k) : PAt w' (New w w') b d := by
  obtain ⟨g, c, rfl⟩ := row_some o1 hok.n1
  refine ⟨⟨g, c, v2, hr, row_base o1 (Nat.zero_le _), row_base o2 (Nat.zero_le _), fun e => n1 (by rw [← e]; rfl), n2, n12 g rfl, ⟨hb, (Array.getElem?_eq_some_iff.1 hr).1⟩, ⟨row_ge o1 rfl, row_lt o1 rfl⟩, fun k hk => ⟨row_ge o2 hk, row_lt o2 hk⟩⟩, hok, fun k hk => hk.2⟩

def z58 : Array Value := #[.slice none 0 0, .slice none 0 0, .int .i64 0, .bool false]
set_option maxRecDepth 100000 in
theorem zero58 : (∀ w, (zeroValue 120).run Tryz.prog w = .ok (.agg z58) w) ∧ (Tryz.prog.info? 120).map (·.size) = some 4 :=
  zero_of_info (by kernel_rfl)
end Go.Proofs.YtjanddnlhaionaaGreatDoor.L6
