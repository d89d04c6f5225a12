/-
  The contracts of copyOf and List at cells without cells in them. No condition but bounds on lengths.
-/
import Derived.Test.YtdmalkkpcggifaaQ
namespace Go.Proofs.Ytdmalkkpcggifaa
open Go.RowKit

def lenOf : Value → Nat | .slice _ n _ => n | _ => 0

/-- A copy of cells without cells, in blocks from B on. -/
def Copied (w : World) (D : List C) (v : Value) (w' : World) : Prop := Below w.heap.size w w' ∧ w'.ownsRow w.heap.size 25 4 v D.length (flatV D)

set_option maxRecDepth 100000 in
set_option maxHeartbeats 1600000 in
theorem copyOf29_flat (b o cap : Nat) (D : List C) (w : World) (hD : 0 < D.length) (hD2 : D.length ≤ 4095)
    (hc : ∀ j u, (flatV D)[j]? = some u → w.cell? ((⟨b, o, none⟩ : Addr).add j) = some u) :
    Calls Try.prog 29 #[.slice (some ⟨b, o, none⟩) D.length cap] w fun e w' => ∃ v, e = .returned v ∧ Copied w D v w' := by
  have HC := Lib.hid hc
  clear hc
  go_enter Try.func29, Try.ntmps29
  go_wp2_with fail
  go_loopw [4] (fun s4 wr => (s4 = .slice (some ⟨w.heap.size + 1, 0, none⟩) 1 1 ∧ wr = (w.alloc (.cells #[.slice (some ⟨b, o, none⟩) D.length cap] 23)).alloc (.cells #[.pointer (some ⟨w.heap.size, 0, none⟩), .int .i64 0, .pointer none] 73)) ∨
    (s4 = .slice (some ⟨w.heap.size + 1, 0, none⟩) 0 1 ∧ ∃ v, wr.heap[w.heap.size]? = some (.cells #[v] 23 (0, 0)) ∧ Hid (Copied w D v wr))) (fun s4 _ => lenOf s4)
  case atStart => exact .inl ⟨rfl, rfl⟩
  case round =>
    rcases hrel with ⟨rfl, rfl⟩ | ⟨rfl, v, hv, HCP⟩
    · obtain ⟨w3, hw3⟩ : ∃ w3, ((w.alloc (.cells #[.slice (some ⟨b, o, none⟩) D.length cap] 23)).alloc (.cells #[.pointer (some ⟨w.heap.size, 0, none⟩), .int .i64 0, .pointer none] 73)).alloc (.cells #[.pointer (some ⟨w.heap.size, 0, none⟩), .int .i64 0, .pointer none] 73) = w3 := ⟨_, rfl⟩
      have hb3 : Below w.heap.size w w3 := by rw [← hw3]; exact (((Below.refl _ w).alloc (Nat.le_refl _) _).alloc (by simp) _).alloc (by simp; omega) _
      have hz3 : w3.heap.size = w.heap.size + 3 := by rw [← hw3]; simp
      have hG3 : w3.heap[w.heap.size]? = some (.cells #[.slice (some ⟨b, o, none⟩) D.length cap] 23 (0, 0)) := by
        rw [← hw3, Below.heap_alloc _ _ _ (by simp; omega), Below.heap_alloc _ _ _ (by simp)]; exact heap_alloc_new w _
      have hS := separate39_flat w.heap.size b o cap D w3 hG3 hD hD2 (fun j u hu => by
        have := HC.out j u hu
        have hlt := World.block_lt_of_cell? w _ this
        rw [World.cell?_of_block (hb3.block _ hlt)]
        exact this)
      rw [← hw3] at hS
      have HS := Lib.hid hS
      have HW3 := Lib.hid hw3
      have HB3 := Lib.hid hb3
      have HZ3 := Lib.hid hz3
      clear hS hw3 hb3 hG3 hz3
      go_wp2_with fail
      refine HS.out.mono ?_
      rintro e w4 ⟨rfl, hg, g, c, hG4, ho⟩
      rw [HW3.out] at hg ho
      have HCP : Hid (Copied w D (.slice (some ⟨g, 0, none⟩) D.length c) w4) := ⟨HB3.out.trans ⟨hg.os, hg.tape, hg.output, hg.size, fun k hk => hg.block k (by have := HZ3.out; omega) (fun e => by injection e; omega)⟩, ho.1, by
        rcases ho.2 with h | ⟨g', c', cur, h1, h2, h3⟩
        · exact .inl h
        · exact .inr ⟨g', c', cur, h1, by have := HZ3.out; omega, h3⟩⟩
      clear hg ho HS HW3 HB3 HZ3
      go_wp2_with fail
      exact ⟨.inr ⟨rfl, _, hG4, HCP⟩, by show 0 < 1; omega⟩
    · have hv0 : wr.cell? ⟨w.heap.size, 0, none⟩ = some v := cell_of_row wr _ 0 _ 23 (0, 0) hv
      obtain ⟨A, cp, rfl⟩ : ∃ A cp, v = .slice A D.length cp := by
        rcases HCP.out.2.2 with ⟨h, h2⟩ | ⟨g', c', cur, h1, h2⟩
        · exact ⟨none, 0, by rw [h, h2]⟩
        · exact ⟨_, _, h1⟩
      clear hv
      go_wp2_with fail
      go_ret
      exact ⟨_, rfl, HCP.out⟩

set_option maxRecDepth 100000 in
set_option maxHeartbeats 1600000 in
theorem list18_flat (b o cap : Nat) (D : List C) (w : World) (hD : 0 < D.length) (hD2 : D.length ≤ 4095) (hDw : ∀ c ∈ D, Wf c ∧ c.l = [])
    (hc : ∀ j u, (flatV D)[j]? = some u → w.cell? ((⟨b, o, none⟩ : Addr).add j) = some u) :
    Calls Try.prog 18 #[.slice (some ⟨b, o, none⟩) D.length cap] w fun e w' => ∃ u, e = .returned (cellV (.mk 3 0 ⟨#[]⟩ D) u) ∧ LAt w' w'.heap.size 2 u D ∧ Below w.heap.size w w' := by
  have HC := Lib.hid (copyOf29_flat b o cap D (w.alloc (.cells #[.int .i64 0, .int .i64 0, .string ⟨#[]⟩, .slice none 0 0] 25)) hD hD2 (fun j u hu => (World.grownBy_alloc w _ none).cell (hc j u hu) (by simp)))
  clear hc
  go_enter Try.func18, Try.ntmps18
  go_wp2_with fail
  refine HC.out.mono ?_
  rintro e w2 ⟨v, rfl, hcp⟩
  have hz : w.heap.size + 1 ≤ w2.heap.size := by have := hcp.1.size; simpa using this
  obtain ⟨A, cp, rfl⟩ : ∃ A cp, v = .slice A D.length cp := by
    rcases hcp.2.2 with ⟨h, h2⟩ | ⟨g', c', cur, h1, h2⟩
    · exact ⟨none, 0, by rw [h, h2]⟩
    · exact ⟨_, _, h1⟩
  have hP : w2.heap[w.heap.size]? = some (.cells #[.int .i64 0, .int .i64 0, .string ⟨#[]⟩, .slice none 0 0] 25 (0, 0)) := (hcp.1.block w.heap.size (by simp)).trans (heap_alloc_new w _)
  have HP := Lib.hid hP
  have HSS := Lib.hid (size_four 3 0 ⟨#[]⟩ A D.length cp)
  have HALL := Lib.hid (all_one 3 0 ⟨#[]⟩ A D.length cp)
  have HE : Hid (LAt (w2.setRow w.heap.size #[.int .i64 3, .int .i64 0, .string ⟨#[]⟩, .slice A D.length cp]) (w2.setRow w.heap.size #[.int .i64 3, .int .i64 0, .string ⟨#[]⟩, .slice A D.length cp]).heap.size 2 (.slice A D.length cp) D ∧ Below w.heap.size w (w2.setRow w.heap.size #[.int .i64 3, .int .i64 0, .string ⟨#[]⟩, .slice A D.length cp])) := by
    refine ⟨?_, ((Below.refl _ w).alloc (Nat.le_refl _) _).trans ((hcp.1.mono (by simp)).trans ⟨rfl, rfl, rfl, by simp, fun k hk => setRow_other _ _ _ _ (by omega)⟩)⟩
    have hg : w2.grownBy (w2.setRow w.heap.size #[.int .i64 3, .int .i64 0, .string ⟨#[]⟩, .slice A D.length cp]) (some w.heap.size) := ⟨rfl, rfl, rfl, by simp, fun k _ hn => setRow_other _ _ _ _ (fun e => hn (by rw [e]))⟩
    have ho := World.ownsRow.kept hcp.2 hg (by
      cases hv : (Value.slice A D.length cp).ownBlock with
      | none => exact .inl rfl
      | some k => exact .inr fun e => by have := (hcp.2.lt k hv).1; injection e with e; simp at this; omega)
    have hOL : OwnL (w2.setRow w.heap.size #[.int .i64 3, .int .i64 0, .string ⟨#[]⟩, .slice A D.length cp]) (w.alloc (.cells #[.int .i64 0, .int .i64 0, .string ⟨#[]⟩, .slice none 0 0] 25)).heap.size 1 (.slice A D.length cp) (D.map fun c => (c, .slice none 0 0)) := by
      refine ⟨by rw [List.length_map]; exact ho, ?_⟩
      intro x hx
      obtain ⟨c, hc, rfl⟩ := List.mem_map.1 hx
      refine ⟨(hDw c hc).1, ?_⟩
      simp only
      rw [(hDw c hc).2]
      exact LIn.nil _ _ _
    have := hOL.list.lat (B := (w2.setRow w.heap.size #[.int .i64 3, .int .i64 0, .string ⟨#[]⟩, .slice A D.length cp]).heap.size) fun b hb => hb.2
    rwa [List.map_map, show ((fun x : C × Value => x.1) ∘ fun c => (c, Value.slice none 0 0)) = id from rfl, List.map_id] at this
  clear hcp hP HC
  go_wp2_with (refine wpList_store_row (P := Try.prog) rfl 25 _ _ rfl w.heap.size #[.int .i64 3, .int .i64 0, .string ⟨#[]⟩, .slice A D.length cp] rfl rfl 25 _ HP.out HSS.out rfl HALL.out ?_)
  refine bodyPost_ret (results_cell_row (p := 2) (ty := 25) rfl _ _ w.heap.size 25 #[.int .i64 3, .int .i64 0, .string ⟨#[]⟩, .slice A D.length cp] (0, 0) _ ?hp (setRow_heap _ w.heap.size _ _ 25 (0, 0) HP.out) Try.underlying25 rfl (by exact HSS.out)) rfl ?_
  case hp => simp [Act.put]
  exact ⟨_, rfl, HE.out⟩
end Go.Proofs.Ytdmalkkpcggifaa
