/-
  The contracts of Next and of Take. No condition but bounds on lengths. Plain facts on Next, Take and Put; the contract of CellBack. No condition. Counting cells; what lies at a place is one thing; a list read through a place that was turned to an equal list. No condition.
-/
import Derived.Test.YtjanddnlhaionaaGreatDoorL4x2
import Derived.Deep.RegionHeld3
import Derived.Deep.RegionLaw
set_option maxRecDepth 100000
namespace Go.Proofs.YtjanddnlhaionaaGreatDoor.L4
open Go.RowKit

def zeroC : C := .mk 0 0 ⟨#[]⟩ []
/-- What Next tells: the cell, the place, the error. -/
def ansOf (n : Nat) : PR → C × Int × Int
  | .ok c r => (c, ((n - r.length : Nat) : Int), 0)
  | .bad m e => (zeroC, (n : Int) - m, e)
def nextM (s : ByteArray) (at' : Int) : C × Int × Int := if at' < 0 ∨ (s.size : Int) < at' then (zeroC, 0, 2) else ansOf s.size (parse 16 (s.data.toList.drop at'.toNat))

def NextTo (w : World) (a : C × Int × Int) (e : Ending) (w' : World) : Prop :=
  ∃ u, e = .returned (.tuple #[cellV a.1 u, .int .i64 a.2.1, .int .i64 a.2.2]) ∧ LIn w' (fun b => w.heap.size ≤ b ∧ T38 w' b) 16 u a.1.l ∧ Below w.heap.size w w'

theorem six_other (P Q S b : Nat) (w : World) (v0 v1 v2 v3 v4 v5 : Value) (h0 : b ≠ P) (h1 : b ≠ Q) (h2 : b ≠ S) :
    ((((((w.setCell ⟨P, 0, none⟩ v0).setCell ⟨P, 1, none⟩ v1).setCell ⟨P, 2, none⟩ v2).setCell ⟨P, 3, none⟩ v3).setCell ⟨Q, 0, none⟩ v4).setCell ⟨S, 0, none⟩ v5).drew.heap[b]? = w.heap[b]? := by
  have e1 := Below.heap_setCell w ⟨P, 0, none⟩ v0 b h0
  generalize w.setCell ⟨P, 0, none⟩ v0 = w1 at e1
  have e2 := Below.heap_setCell w1 ⟨P, 1, none⟩ v1 b h0
  generalize w1.setCell ⟨P, 1, none⟩ v1 = w2 at e2
  have e3 := Below.heap_setCell w2 ⟨P, 2, none⟩ v2 b h0
  generalize w2.setCell ⟨P, 2, none⟩ v2 = w3 at e3
  have e4 := Below.heap_setCell w3 ⟨P, 3, none⟩ v3 b h0
  generalize w3.setCell ⟨P, 3, none⟩ v3 = w4 at e4
  have e5 := Below.heap_setCell w4 ⟨Q, 0, none⟩ v4 b h1
  generalize w4.setCell ⟨Q, 0, none⟩ v4 = w5 at e5
  have e6 := Below.heap_setCell w5 ⟨S, 0, none⟩ v5 b h2
  generalize w5.setCell ⟨S, 0, none⟩ v5 = w6 at e6
  exact e6.trans (e5.trans (e4.trans (e3.trans (e2.trans e1))))

theorem results19 (tmps : Array Value) (w : World) (P Q S : Nat) (k n : Int) (sv : ByteArray) (A : Option Addr) (l cap : Nat) (a b : Int) (hp4 : tmps[4]?.getD undef = .pointer (some ⟨P, 0, none⟩)) (hp5 : tmps[5]?.getD undef = .pointer (some ⟨Q, 0, none⟩)) (hp6 : tmps[6]?.getD undef = .pointer (some ⟨S, 0, none⟩))
    (h0 : w.heap[P]? = some (.cells #[.int .i64 k, .int .i64 n, .string sv, .slice A l cap] 38 (0, 0))) (h1 : w.heap[Q]? = some (.cells #[.int .i64 a] 3 (0, 0))) (h2 : w.heap[S]? = some (.cells #[.int .i64 b] 30 (0, 0))) :
    (results Tryz.f115 tmps).run Tryz.prog w = .ok (.tuple #[.agg #[.int .i64 k, .int .i64 n, .string sv, .slice A l cap], .int .i64 a, .int .i64 b]) w := by
  have q0 : w.cell? ⟨Q, 0, none⟩ = some (.int .i64 a) := cell_of_row w Q 0 _ 3 (0, 0) h1
  have s0 : w.cell? ⟨S, 0, none⟩ = some (.int .i64 b) := cell_of_row w S 0 _ 30 (0, 0) h2
  have p0 : w.cell? ⟨P, 0, none⟩ = some (.int .i64 k) := cell_of_row w P 0 _ 38 (0, 0) h0
  have p1 : w.cell? ⟨P, 1, none⟩ = some (.int .i64 n) := cell_of_row w P 1 _ 38 (0, 0) h0
  have p2 : w.cell? ⟨P, 2, none⟩ = some (.string sv) := cell_of_row w P 2 _ 38 (0, 0) h0
  have p3 : w.cell? ⟨P, 3, none⟩ = some (.slice A l cap) := cell_of_row w P 3 _ 38 (0, 0) h0
  simp [results, Tryz.results115, hp4, hp5, hp6, asAddr, go_sem, p0, p1, p2, p3, q0, s0]

set_option maxHeartbeats 1600000 in
theorem next19_arg (s : ByteArray) (n : Int) (w : World) (h : n < 0 ∨ (s.size : Int) < n) : Calls Tryz.prog 115 #[.string s, .int .i64 n] w (NextTo w (zeroC, 0, 2)) := by
  have hmf : ∀ (fn : Fn) (first cap : Array Value) (w : World), (Instr.makeFunc fn first cap).run Tryz.prog w = .ok (.func fn first cap) w := fun _ _ _ _ => rfl
  have HE : Hid (∀ tmps : Array Value, tmps[4]?.getD undef = .pointer (some ⟨w.heap.size, 0, none⟩) → tmps[5]?.getD undef = .pointer (some ⟨w.heap.size + 1, 0, none⟩) → tmps[6]?.getD undef = .pointer (some ⟨w.heap.size + 1 + 1, 0, none⟩) →
      Leaves Tryz.prog Tryz.f115 tmps (NextTo w (zeroC, 0, 2)) [] .returning (((w.alloc (.cells #[.int .i64 0, .int .i64 0, .string ⟨#[]⟩, .slice none 0 0] 38)).alloc (.cells #[.int .i64 0] 3)).alloc (.cells #[.int .i64 2] 30))) := by
    intro tmps h4 h5 h6
    refine ⟨_, results19 tmps _ w.heap.size (w.heap.size + 1) (w.heap.size + 1 + 1) 0 0 ⟨#[]⟩ none 0 0 0 2 h4 h5 h6 ?_ ?_ ?_, ?_⟩
    · rw [Below.heap_alloc _ _ _ (by simp; omega), Below.heap_alloc _ _ _ (by simp)]; exact heap_alloc_new w _
    · rw [Below.heap_alloc _ _ _ (by simp)]; exact heap_alloc2_new w _ _
    · have := heap_alloc_new ((w.alloc (.cells #[.int .i64 0, .int .i64 0, .string ⟨#[]⟩, .slice none 0 0] 38)).alloc (.cells #[.int .i64 0] 3)) (.cells #[.int .i64 2] 30)
      simpa using this
    · exact ⟨.slice none 0 0, rfl, LIn.nil _ _ _, (((Below.refl _ w).alloc (Nat.le_refl _) _).alloc (by simp) _).alloc (by simp; omega) _⟩
  by_cases h0 : n < 0
  · clear h
    go_enter_defers Tryz.func115, Tryz.ntmps115
    go_wp2
    exact HE.out _ rfl rfl rfl
  · have h1 : (s.size : Int) < n := by omega
    clear h
    go_enter_defers Tryz.func115, Tryz.ntmps115
    go_wp2
    exact HE.out _ rfl rfl rfl

set_option maxHeartbeats 1600000 in
theorem next19_in (s : ByteArray) (n : Nat) (w : World) (h : n ≤ s.size) (hs : s.size ≤ 1000000000) : Calls Tryz.prog 115 #[.string s, .int .i64 n] w (NextTo w (ansOf s.size (parse 16 (s.data.toList.drop n)))) := by
  have hmf : ∀ (fn : Fn) (first cap : Array Value) (w : World), (Instr.makeFunc fn first cap).run Tryz.prog w = .ok (.func fn first cap) w := fun _ _ _ _ => rfl
  have h0 : ¬ (n : Int) < 0 := by omega
  have h1 : ¬ (s.size : Int) < (n : Int) := by omega
  obtain ⟨w4, hw4⟩ : ∃ w4, (((w.alloc (.cells #[.int .i64 0, .int .i64 0, .string ⟨#[]⟩, .slice none 0 0] 38)).alloc (.cells #[.int .i64 0] 3)).alloc (.cells #[.int .i64 0] 30)).alloc (.cells #[.string s, .int .i64 n] 230) = w4 := ⟨_, rfl⟩
  have hP : w4.heap[w.heap.size]? = some (.cells #[.int .i64 0, .int .i64 0, .string ⟨#[]⟩, .slice none 0 0] 38 (0, 0)) := by
    rw [← hw4, Below.heap_alloc _ _ _ (by simp; omega), Below.heap_alloc _ _ _ (by simp; omega), Below.heap_alloc _ _ _ (by simp)]; exact heap_alloc_new w _
  have hQ : w4.heap[w.heap.size + 1]? = some (.cells #[.int .i64 0] 3 (0, 0)) := by
    rw [← hw4, Below.heap_alloc _ _ _ (by simp), Below.heap_alloc _ _ _ (by simp)]; exact heap_alloc2_new w _ _
  have hS : w4.heap[w.heap.size + 1 + 1]? = some (.cells #[.int .i64 0] 30 (0, 0)) := by
    rw [← hw4, Below.heap_alloc _ _ _ (by simp)]
    have := heap_alloc_new ((w.alloc (.cells #[.int .i64 0, .int .i64 0, .string ⟨#[]⟩, .slice none 0 0] 38)).alloc (.cells #[.int .i64 0] 3)) (.cells #[.int .i64 0] 30)
    simpa using this
  have hR : RdAt w4 (w.heap.size + 1 + 1 + 1) s n := by
    unfold RdAt
    rw [← hw4]
    have := heap_alloc_new (((w.alloc (.cells #[.int .i64 0, .int .i64 0, .string ⟨#[]⟩, .slice none 0 0] 38)).alloc (.cells #[.int .i64 0] 3)).alloc (.cells #[.int .i64 0] 30)) (.cells #[.string s, .int .i64 n] 230)
    simpa using this
  have hz4 : w4.heap.size = w.heap.size + 4 := by rw [← hw4]; simp
  have hb4 : Below w.heap.size w w4 := by rw [← hw4]; exact ((((Below.refl _ w).alloc (Nat.le_refl _) _).alloc (by simp) _).alloc (by simp; omega) _).alloc (by simp; omega) _
  obtain ⟨q, hq⟩ : ∃ q, parse 16 (s.data.toList.drop n) = q := ⟨_, rfl⟩
  have hC := readCell31 (w.heap.size + 1 + 1 + 1) s hs 16 1 n w4 hR h (by omega)
  rw [hq] at hC ⊢
  rw [← hw4] at hC
  have HC := Lib.hid hC
  have HW4 := Lib.hid hw4
  have HB4 := Lib.hid hb4
  have HP := Lib.hid hP
  have HQ := Lib.hid hQ
  have HS := Lib.hid hS
  have HZ4 := Lib.hid hz4
  clear hC hw4 hb4 hP hQ hS hR hz4 hq
  go_enter_defers Tryz.func115, Tryz.ntmps115
  go_wp2_with fail
  refine HC.out.mono ?_
  rintro e wr ⟨hg, hto⟩
  rw [HW4.out] at hg hto
  have hz4 := HZ4.out
  have hP := (hg.block w.heap.size (by omega) (fun e => by injection e; omega)).trans HP.out
  have hQ := (hg.block (w.heap.size + 1) (by omega) (fun e => by injection e; omega)).trans HQ.out
  have hS := (hg.block (w.heap.size + 1 + 1) (by omega) (fun e => by injection e; omega)).trans HS.out
  have hbr : Below w.heap.size w wr := HB4.out.trans ⟨hg.os, hg.tape, hg.output, hg.size, fun k hk => hg.block k (by omega) (fun e => by injection e; omega)⟩
  cases q with
  | bad m z =>
    cases hto
    refine leaves_cons (f := 153) (args := #[.pointer (some ⟨w.heap.size, 0, none⟩), .pointer (some ⟨w.heap.size + 1, 0, none⟩), .pointer (some ⟨w.heap.size + 1 + 1, 0, none⟩)]) (by simp) (by simp [go_sem]) ?_
    refine (catch_panicking w.heap.size (w.heap.size + 1) (w.heap.size + 1 + 1) ((s.size : Int) - m) z [] wr _ _ _ _ _ _ hP hQ hS (by omega) (by omega)).mono ?_
    rintro e u' w'' ⟨rfl, rfl, hb, g0, g1, g2⟩
    exact ⟨_, results19 _ _ w.heap.size (w.heap.size + 1) (w.heap.size + 1 + 1) 0 0 ⟨#[]⟩ none 0 0 _ _ rfl rfl rfl g0 g1 g2, .slice none 0 0, rfl, LIn.nil _ _ _, hbr.trans hb⟩
  | ok c rest =>
    obtain ⟨u, rfl, hL, hR⟩ := hto
    obtain ⟨A, cap, rfl⟩ := hL.slice
    obtain ⟨ck, cn, cs, cl⟩ := c
    rw [l_mk] at hL ⊢
    have HL := Lib.hid hL
    have hll : ∃ cl2, cl.length = cl2 := ⟨_, rfl⟩
    obtain ⟨cl2, hcl2⟩ := hll
    rw [hcl2] at HL ⊢
    have HRr := Lib.hid hR
    have HPr := Lib.hid hP
    have HQr := Lib.hid hQ
    have HSr := Lib.hid hS
    have HBr := Lib.hid hbr
    have HSS := Lib.hid (size_four ck cn cs A cl2 cap)
    have HALL := Lib.hid (all_one ck cn cs A cl2 cap)
    have hgz := hg.size
    unfold cellV
    simp only [k_mk, n_mk, s_mk]
    clear hL hR hP hQ hS hbr hcl2 hg HC HW4 HB4 HP HQ HS h0 h1
    go_wp2_with (refine wpList_store_row (P := Tryz.prog) rfl 38 _ _ rfl w.heap.size #[.int .i64 ck, .int .i64 cn, .string cs, .slice A cl2 cap] rfl rfl 38 _ HPr.out HSS.out rfl HALL.out ?_)
    obtain ⟨W, hW⟩ : ∃ W, wr.setRow w.heap.size #[.int .i64 ck, .int .i64 cn, .string cs, .slice A cl2 cap] = W := ⟨_, rfl⟩
    rw [hW]
    have wP : W.heap[w.heap.size]? = some (.cells #[.int .i64 ck, .int .i64 cn, .string cs, .slice A cl2 cap] 38 (0, 0)) := by rw [← hW]; exact setRow_heap wr w.heap.size _ _ 38 (0, 0) HPr.out
    have wQ : W.heap[w.heap.size + 1]? = some (.cells #[.int .i64 0] 3 (0, 0)) := by rw [← hW, setRow_other _ _ _ _ (by omega)]; exact HQr.out
    have wS : W.heap[w.heap.size + 1 + 1]? = some (.cells #[.int .i64 0] 30 (0, 0)) := by rw [← hW, setRow_other _ _ _ _ (by omega)]; exact HSr.out
    have wR : RdAt W (w.heap.size + 1 + 1 + 1) s (s.size - rest.length) := by unfold RdAt; rw [← hW, setRow_other _ _ _ _ (by omega)]; exact HRr.out
    have HWL : Hid (LIn W (fun b => w4.heap.size ≤ b ∧ T38 W b) 16 (.slice A cl2 cap) cl) := HL.out.keep (fun b hb => ⟨hb.1, by rw [← hW]; exact hb.2.keep (setRow_other _ _ _ _ (by have := hb.1; omega))⟩) fun b o' hb => by rw [← hW]; exact cell_same (setRow_other _ _ _ _ (by have := hb.1; omega)) o'
    have HWB : Hid (Below w.heap.size w W) := by rw [← hW]; exact HBr.out.trans ⟨rfl, rfl, rfl, by simp, fun k hk => setRow_other _ _ _ _ (by omega)⟩
    have hWz : W.heap.size = wr.heap.size := by rw [← hW]; simp
    have r1 := wR.c1
    have p0 : W.cell? ⟨w.heap.size, 0, none⟩ = some (.int .i64 ck) := cell_of_row W w.heap.size 0 _ 38 (0, 0) wP
    have p1 : W.cell? ⟨w.heap.size, 1, none⟩ = some (.int .i64 cn) := cell_of_row W w.heap.size 1 _ 38 (0, 0) wP
    have p2 : W.cell? ⟨w.heap.size, 2, none⟩ = some (.string cs) := cell_of_row W w.heap.size 2 _ 38 (0, 0) wP
    have p3 : W.cell? ⟨w.heap.size, 3, none⟩ = some (.slice A cl2 cap) := cell_of_row W w.heap.size 3 _ 38 (0, 0) wP
    have q0 : W.cell? ⟨w.heap.size + 1, 0, none⟩ = some (.int .i64 0) := cell_of_row W _ 0 _ 3 (0, 0) wQ
    have s0 : W.cell? ⟨w.heap.size + 1 + 1, 0, none⟩ = some (.int .i64 0) := cell_of_row W _ 0 _ 30 (0, 0) wS
    have zp : ∀ j, W.frozen? ⟨w.heap.size, j, none⟩ = false := fun j => by simp [World.frozen?, wP]
    have zq : ∀ j, W.frozen? ⟨w.heap.size + 1, j, none⟩ = false := fun j => by simp [World.frozen?, wQ]
    have zs : ∀ j, W.frozen? ⟨w.heap.size + 1 + 1, j, none⟩ = false := fun j => by simp [World.frozen?, wS]
    have HWP := Lib.hid wP
    have HWQ := Lib.hid wQ
    have HWS := Lib.hid wS
    have HWz := Lib.hid hWz
    have HE : Hid (∀ tmps : Array Value, tmps[4]?.getD undef = .pointer (some ⟨w.heap.size, 0, none⟩) → tmps[5]?.getD undef = .pointer (some ⟨w.heap.size + 1, 0, none⟩) → tmps[6]?.getD undef = .pointer (some ⟨w.heap.size + 1 + 1, 0, none⟩) →
        Leaves Tryz.prog Tryz.f115 tmps (NextTo w (ansOf s.size (.ok (.mk ck cn cs cl) rest))) [{ target := .fn (Fn.func 153) #[.pointer (some ⟨w.heap.size, 0, none⟩), .pointer (some ⟨w.heap.size + 1, 0, none⟩), .pointer (some ⟨w.heap.size + 1 + 1, 0, none⟩)], args := #[] }] .returning
          ((((((W.setCell ⟨w.heap.size, 0, none⟩ (.int .i64 ck)).setCell ⟨w.heap.size, 1, none⟩ (.int .i64 cn)).setCell ⟨w.heap.size, 2, none⟩ (.string cs)).setCell ⟨w.heap.size, 3, none⟩ (.slice A cl2 cap)).setCell ⟨w.heap.size + 1, 0, none⟩ (.int .i64 ((s.size - rest.length : Nat) : Int))).setCell ⟨w.heap.size + 1 + 1, 0, none⟩ (.int .i64 0)).drew) := by
      intro tmps h4 h5 h6
      obtain ⟨g0, g1, g2, g3⟩ := six_sets w.heap.size (w.heap.size + 1) (w.heap.size + 1 + 1) W _ _ _ _ _ _ (.int .i64 ck) (.int .i64 cn) (.string cs) (.slice A cl2 cap) (.int .i64 ((s.size - rest.length : Nat) : Int)) (.int .i64 0) HWP.out HWQ.out HWS.out (by omega) (by omega)
      refine leaves_cons (f := 153) (args := #[.pointer (some ⟨w.heap.size, 0, none⟩), .pointer (some ⟨w.heap.size + 1, 0, none⟩), .pointer (some ⟨w.heap.size + 1 + 1, 0, none⟩)]) (by simp) (by simp [go_sem]) ?_
      refine (catch_idle ⟨w.heap.size, 0, none⟩ ⟨w.heap.size + 1, 0, none⟩ ⟨w.heap.size + 1 + 1, 0, none⟩ _).mono ?_
      have hcell : ∀ b o', w.heap.size + 1 + 1 < b → (((((((W.setCell ⟨w.heap.size, 0, none⟩ (.int .i64 ck)).setCell ⟨w.heap.size, 1, none⟩ (.int .i64 cn)).setCell ⟨w.heap.size, 2, none⟩ (.string cs)).setCell ⟨w.heap.size, 3, none⟩ (.slice A cl2 cap)).setCell ⟨w.heap.size + 1, 0, none⟩ (.int .i64 ((s.size - rest.length : Nat) : Int))).setCell ⟨w.heap.size + 1 + 1, 0, none⟩ (.int .i64 0)).drew).cell? ⟨b, o', none⟩ = W.cell? ⟨b, o', none⟩ := by
        intro b o' hb
        exact cell_same (six_other _ _ _ b W _ _ _ _ _ _ (by omega) (by omega) (by omega)) o'
      have hl2 := HWL.out.keep (S' := fun b => w4.heap.size ≤ b ∧ T38 _ b) (fun b hb => ⟨hb.1, hb.2.keep (six_other w.heap.size (w.heap.size + 1) (w.heap.size + 1 + 1) b W (.int .i64 ck) (.int .i64 cn) (.string cs) (.slice A cl2 cap) (.int .i64 ((s.size - rest.length : Nat) : Int)) (.int .i64 0) (by have := hb.1; omega) (by have := hb.1; omega) (by have := hb.1; omega))⟩) fun b o' hb => hcell b o' (by have := hb.1; omega)
      generalize (((((W.setCell ⟨w.heap.size, 0, none⟩ (.int .i64 ck)).setCell ⟨w.heap.size, 1, none⟩ (.int .i64 cn)).setCell ⟨w.heap.size, 2, none⟩ (.string cs)).setCell ⟨w.heap.size, 3, none⟩ (.slice A cl2 cap)).setCell ⟨w.heap.size + 1, 0, none⟩ (.int .i64 ((s.size - rest.length : Nat) : Int))).setCell ⟨w.heap.size + 1 + 1, 0, none⟩ (.int .i64 0) = W2 at g0 g1 g2 g3 hl2
      rintro e u' w'' ⟨rfl, rfl, hb⟩
      have l0 := (Array.getElem?_eq_some_iff.1 g1).1
      have l1 := (Array.getElem?_eq_some_iff.1 g2).1
      have l2 := (Array.getElem?_eq_some_iff.1 g3).1
      refine ⟨_, results19 tmps _ w.heap.size (w.heap.size + 1) (w.heap.size + 1 + 1) ck cn cs A cl2 cap _ _ h4 h5 h6 ((hb.block _ l0).trans g1) ((hb.block _ l1).trans g2) ((hb.block _ l2).trans g3), .slice A cl2 cap, rfl, ?_, HWB.out.trans (g0.trans (hb.mono (by omega)))⟩
      have hz2 := g0.size
      have hz3 := hb.size
      rw [HWz.out] at hz2
      exact hl2.keep (fun b hb' => ⟨by have := hb'.1; omega, hb'.2.keep (hb.block b hb'.2.lt)⟩) fun b o' hb' => hb.cell (p := ⟨b, o', none⟩) hb'.2.lt
    clear wP wQ wS wR hW HRr HPr HQr HSr HBr HL hWz HWP HWQ HWS HWz HWL HWB
    simp only [Act.put]
    go_region
    all_goals
      go_wp2_with fail
      exact HE.out _ rfl rfl rfl

theorem next19 (s : ByteArray) (n : Int) (w : World) (hs : s.size ≤ 1000000000) : Calls Tryz.prog 115 #[.string s, .int .i64 n] w (NextTo w (nextM s n)) := by
  unfold nextM
  by_cases h : n < 0 ∨ (s.size : Int) < n
  · rw [if_pos h]
    exact next19_arg s n w h
  · rw [if_neg h]
    have hn : ((n.toNat : Nat) : Int) = n := by omega
    have := next19_in s n.toNat w (by omega) hs
    rw [hn] at this
    exact this

/-- What Take tells: the cell, the error. -/
def takeM (s : ByteArray) : C × Int := if (nextM s 0).2.2 = 0 ∧ (nextM s 0).2.1 < (s.size : Int) then (zeroC, 4) else ((nextM s 0).1, (nextM s 0).2.2)
def TakeTo (w : World) (a : C × Int) (e : Ending) (w' : World) : Prop :=
  ∃ u, e = .returned (.tuple #[cellV a.1 u, .int .i64 a.2]) ∧ LIn w' (fun b => w.heap.size ≤ b ∧ T38 w' b) 16 u a.1.l ∧ Below w.heap.size w w'

theorem results21 (tmps : Array Value) (w : World) (P : Nat) (k n : Int) (sv : ByteArray) (A : Option Addr) (l cap : Nat) (a : Int) (hp2 : tmps[2]?.getD undef = .pointer (some ⟨P, 0, none⟩)) (hp3 : tmps[3]?.getD undef = .int .i64 a)
    (h0 : w.heap[P]? = some (.cells #[.int .i64 k, .int .i64 n, .string sv, .slice A l cap] 38 (0, 0))) :
    (results Tryz.f59 tmps).run Tryz.prog w = .ok (.tuple #[.agg #[.int .i64 k, .int .i64 n, .string sv, .slice A l cap], .int .i64 a]) w := by
  have p0 : w.cell? ⟨P, 0, none⟩ = some (.int .i64 k) := cell_of_row w P 0 _ 38 (0, 0) h0
  have p1 : w.cell? ⟨P, 1, none⟩ = some (.int .i64 n) := cell_of_row w P 1 _ 38 (0, 0) h0
  have p2 : w.cell? ⟨P, 2, none⟩ = some (.string sv) := cell_of_row w P 2 _ 38 (0, 0) h0
  have p3 : w.cell? ⟨P, 3, none⟩ = some (.slice A l cap) := cell_of_row w P 3 _ 38 (0, 0) h0
  simp [results, Tryz.results59, hp2, hp3, asAddr, go_sem, p0, p1, p2, p3]

theorem TakeTo.made {w wr : World} {c : C} {u : Value} {e : Int} {cs : Array Value} (hb : Below w.heap.size w wr) (hL : LIn wr (fun b => w.heap.size + 1 ≤ b ∧ T38 wr b) 16 u c.l) : TakeTo w (c, e) (.returned (.tuple #[cellV c u, .int .i64 e])) (wr.setRow w.heap.size cs) := by
  refine ⟨u, rfl, ?_, hb.trans ⟨rfl, rfl, rfl, by simp, fun k hk => setRow_other _ _ _ _ (by omega)⟩⟩
  exact hL.keep (fun b hb => ⟨by have := hb.1; omega, hb.2.keep (setRow_other _ _ _ _ (by have := hb.1; omega))⟩) fun b o' hb => cell_same (setRow_other _ _ _ _ (by have := hb.1; omega)) o'

set_option maxHeartbeats 1600000 in
theorem take21 (s : ByteArray) (w : World) (hs : s.size ≤ 1000000000) : Calls Tryz.prog 59 #[.string s] w (TakeTo w (takeM s)) := by
  have HC := Lib.hid (next19 s 0 (w.alloc (.cells #[.int .i64 0, .int .i64 0, .string ⟨#[]⟩, .slice none 0 0] 38)) hs)
  unfold takeM
  obtain ⟨⟨c, to, er⟩, hn⟩ : ∃ x, nextM s 0 = x := ⟨_, rfl⟩
  rw [hn] at HC ⊢
  clear hn
  simp only
  obtain ⟨ans, hans⟩ : ∃ ans, (if er = 0 ∧ to < (s.size : Int) then (zeroC, 4) else (c, er)) = ans := ⟨_, rfl⟩
  rw [hans]
  have HA := Lib.hid hans
  clear hans
  go_enter Tryz.func59, Tryz.ntmps59
  go_wp2_with fail
  refine HC.out.mono ?_
  rintro e w2 ⟨u, rfl, hL, hb⟩
  simp only at hL ⊢
  obtain ⟨A, cap, rfl⟩ := hL.slice
  obtain ⟨ck, cn, cs, cl⟩ := c
  rw [l_mk] at hL ⊢
  have HL := Lib.hid hL
  obtain ⟨cl2, hcl2⟩ : ∃ cl2, cl.length = cl2 := ⟨_, rfl⟩
  rw [hcl2] at HL ⊢
  have hP : w2.heap[w.heap.size]? = some (.cells #[.int .i64 0, .int .i64 0, .string ⟨#[]⟩, .slice none 0 0] 38 (0, 0)) := by
    rw [hb.block w.heap.size (by simp)]
    exact heap_alloc_new w _
  have hbw : Below w.heap.size w w2 := ((Below.refl _ w).alloc (Nat.le_refl _) _).trans (hb.mono (by simp))
  have hz : w.heap.size + 1 ≤ w2.heap.size := by have := hb.size; simpa using this
  unfold cellV
  simp only [k_mk, n_mk, s_mk]
  have HP := Lib.hid hP
  have HB := Lib.hid hbw
  clear hL hb hcl2 hP hbw HC
  have HP2 : Hid ((w2.alloc (.cells #[.int .i64 ck, .int .i64 cn, .string cs, .slice A cl2 cap] 38)).heap[w.heap.size]? = some (.cells #[.int .i64 0, .int .i64 0, .string ⟨#[]⟩, .slice none 0 0] 38 (0, 0))) := by
    unfold Hid
    rw [Below.heap_alloc _ _ _ (by omega)]
    exact HP.out
  have HB2 : Hid (Below w.heap.size w (w2.alloc (.cells #[.int .i64 ck, .int .i64 cn, .string cs, .slice A cl2 cap] 38))) := HB.out.alloc (by omega) _
  have HL2 : Hid (LIn (w2.alloc (.cells #[.int .i64 ck, .int .i64 cn, .string cs, .slice A cl2 cap] 38)) (fun b => w.heap.size + 1 ≤ b ∧ T38 (w2.alloc (.cells #[.int .i64 ck, .int .i64 cn, .string cs, .slice A cl2 cap] 38)) b) 16 (.slice A cl2 cap) cl) :=
    HL.out.keep (fun b hb => ⟨by have := hb.1; simp at this; omega, hb.2.keep (Below.heap_alloc _ _ _ hb.2.lt)⟩) fun b o' hb => cell_same (Below.heap_alloc _ _ _ hb.2.lt) o'
  clear HP HB HL
  by_cases he : er = 0
  · have he' : (er == 0) = true := by simpa using he
    by_cases ht : to < (s.size : Int)
    · have hans : ans = (zeroC, 4) := by rw [← HA.out, if_pos ⟨he, ht⟩]
      subst hans
      clear HA he
      have HSS := Lib.hid (size_four 0 0 ⟨#[]⟩ none 0 0)
      have HALL := Lib.hid (all_one 0 0 ⟨#[]⟩ none 0 0)
      go_wp2_with (refine wpList_store_row (P := Tryz.prog) rfl 38 _ _ rfl w.heap.size #[.int .i64 0, .int .i64 0, .string ⟨#[]⟩, .slice none 0 0] rfl rfl 38 _ HP2.out HSS.out rfl HALL.out ?_)
      refine bodyPost_ret (results21 _ _ w.heap.size 0 0 ⟨#[]⟩ none 0 0 4 rfl rfl (setRow_heap _ w.heap.size _ _ 38 (0, 0) HP2.out)) rfl ?_
      exact TakeTo.made (c := zeroC) HB2.out (LIn.nil _ _ _)
    · have hans : ans = (.mk ck cn cs cl, er) := by rw [← HA.out, if_neg (fun h => ht h.2)]
      subst hans
      clear HA
      subst he
      have HSS := Lib.hid (size_four ck cn cs A cl2 cap)
      have HALL := Lib.hid (all_one ck cn cs A cl2 cap)
      go_wp2_with (refine wpList_store_row (P := Tryz.prog) rfl 38 _ _ rfl w.heap.size #[.int .i64 ck, .int .i64 cn, .string cs, .slice A cl2 cap] rfl rfl 38 _ HP2.out HSS.out rfl HALL.out ?_)
      refine bodyPost_ret (results21 _ _ w.heap.size ck cn cs A cl2 cap 0 rfl rfl (setRow_heap _ w.heap.size _ _ 38 (0, 0) HP2.out)) rfl ?_
      exact TakeTo.made (c := .mk ck cn cs cl) HB2.out (HL2.out)
  · have he' : (er == 0) = false := by simpa using he
    have hans : ans = (.mk ck cn cs cl, er) := by rw [← HA.out, if_neg (fun h => he h.1)]
    subst hans
    clear HA he
    have HSS := Lib.hid (size_four ck cn cs A cl2 cap)
    have HALL := Lib.hid (all_one ck cn cs A cl2 cap)
    go_wp2_with (refine wpList_store_row (P := Tryz.prog) rfl 38 _ _ rfl w.heap.size #[.int .i64 ck, .int .i64 cn, .string cs, .slice A cl2 cap] rfl rfl 38 _ HP2.out HSS.out rfl HALL.out ?_)
    refine bodyPost_ret (results21 _ _ w.heap.size ck cn cs A cl2 cap er rfl rfl (setRow_heap _ w.heap.size _ _ 38 (0, 0) HP2.out)) rfl ?_
    exact TakeTo.made (c := .mk ck cn cs cl) HB2.out (HL2.out)
end Go.Proofs.YtjanddnlhaionaaGreatDoor.L4
namespace Go.Proofs.YtjanddnlhaionaaGreatDoor.L4
open Go.RowKit

theorem fit_of_lat {w : World} {B : Nat} : ∀ (d : Nat) (D : Nat) (u : Value) (l : List C), LAt w B d u l → ∀ x ∈ l, Fit D x
  | 0, _, _, _, h => h.elim
  | d + 1, D, u, l, h => by
    intro x hx
    obtain ⟨i, hi, rfl⟩ := List.getElem_of_mem hx
    obtain ⟨A, cap, -, -, -, h3⟩ := h
    obtain ⟨b, o, -, -, hr⟩ := h3 (by omega)
    obtain ⟨u', -, hwf, hs⟩ := hr i hi
    generalize l[i] = x at hwf hs
    obtain ⟨k, n, s, l'⟩ := x
    cases D with
    | zero => trivial
    | succ D => exact ⟨hwf.n0, hwf.n1, fit_of_lat d D u' l' hs⟩

theorem readsN_bad {f : List UInt8 → PR} (hf : ∀ x n z, f x = .bad n z → z ≠ 0) : ∀ (k : Nat) (x : List UInt8) (n : Nat) (z : Int), readsN f k x = .bad n z → z ≠ 0 := by
  intro k
  induction k with
  | zero => intro x n z h; rw [readsN] at h; cases h
  | succ k ih =>
    intro x n z h
    rw [readsN_succ] at h
    cases hq : f x with
    | bad a e => rw [hq] at h; injection h with h1 h2; subst h2; exact hf x a e hq
    | ok c r =>
      rw [hq] at h
      simp only at h
      cases hq2 : readsN f k r with
      | bad a e => rw [hq2] at h; injection h with h1 h2; subst h2; exact ih r a e hq2
      | ok l r' => rw [hq2] at h; cases h
theorem parse_bad (d : Nat) : ∀ (x : List UInt8) (n : Nat) (z : Int), parse d x = .bad n z → z ≠ 0 := by
  induction d with
  | zero =>
    intro x n z h
    cases x with
    | nil => rw [parse_nil] at h; injection h with h1 h2; omega
    | cons b x => rw [parse_zero] at h; injection h with h1 h2; subst h2; split <;> omega
  | succ d ih =>
    intro x n z h
    cases x with
    | nil => rw [parse_nil] at h; injection h with h1 h2; omega
    | cons b x =>
      rw [parse_succ] at h
      split at h
      · unfold based at h
        split at h
        · injection h with h1 h2; omega
        split at h
        · injection h with h1 h2; omega
        unfold body at h
        split at h
        · cases h
        split at h
        · cases h
        split at h
        · split at h
          · injection h with h1 h2; omega
          · cases h
        · split at h
          · rename_i a e hq
            injection h with h1 h2
            subst h2
            exact readsN_bad ih _ _ _ _ hq
          · cases h
      · injection h with h1 h2; omega

theorem take_put {c : C} (hok : okC 16 c = true) (hf : Fit 16 c) : takeM (putS c) = (c, 0) := by
  have hs : putS c = ⟨(encC 16 c).toArray⟩ := by unfold putS; rw [if_pos hok]
  have hsz : (putS c).size = (encC 16 c).length := by rw [hs]; rfl
  have hn : nextM (putS c) 0 = (c, ((putS c).size : Int), 0) := by
    unfold nextM
    rw [if_neg (by omega)]
    have : parse 16 ((putS c).data.toList.drop (0 : Int).toNat) = .ok c [] := by
      rw [hs]
      have := parse_enc 16 c [] hok hf
      rw [List.append_nil] at this
      exact this
    rw [this]
    rfl
  unfold takeM
  rw [hn]
  simp

/-- What Next told without an error. -/
theorem next_ok {s : ByteArray} {n : Int} {c : C} {to : Int} (h : nextM s n = (c, to, 0)) : 0 ≤ n ∧ n < to ∧ to ≤ s.size ∧ okC 16 c = true ∧ Fit 16 c ∧ putS c = cutS s n.toNat (to.toNat - n.toNat) := by
  unfold nextM at h
  split at h
  · injection h with h1 h2; injection h2 with h2 h3; omega
  rename_i hr
  cases hq : parse 16 (s.data.toList.drop n.toNat) with
  | bad a e =>
    rw [hq] at h
    have := parse_bad _ _ _ _ hq
    injection h with h1 h2
    injection h2 with h2 h3
    exact absurd h3 this
  | ok c' r =>
    rw [hq] at h
    injection h with h1 h2
    injection h2 with h2 h3
    subst h1
    obtain ⟨e1, e2, e3⟩ := parse_ok _ _ _ _ hq
    have hl := congrArg List.length e1
    rw [List.length_drop, List.length_append, size_data] at hl
    have hp := encC_pos e2
    refine ⟨by omega, by omega, by omega, e2, e3, ?_⟩
    unfold putS cutS
    rw [if_pos e2, e1]
    congr 2
    rw [show to.toNat - n.toNat = (encC 16 c').length by omega, List.take_left]
end Go.Proofs.YtjanddnlhaionaaGreatDoor.L4
namespace Go.Proofs.YtjanddnlhaionaaGreatDoor.L4
open Go.RowKit

mutual
def cntC : C → Nat
  | .mk _ _ _ l => 1 + cntL l
def cntL : List C → Nat
  | [] => 0
  | x :: l => cntC x + cntL l
end
theorem cntC_mk (k n : Int) (s : ByteArray) (l : List C) : cntC (.mk k n s l) = 1 + cntL l := by rw [cntC]
theorem cntC_l (c : C) : cntC c = 1 + cntL c.l := by cases c; rw [cntC_mk]; rfl
theorem cntL_cons (x : C) (l : List C) : cntL (x :: l) = cntC x + cntL l := by rw [cntL]
theorem cntL_nil : cntL [] = 0 := by rw [cntL]
theorem cntL_append (a b : List C) : cntL (a ++ b) = cntL a + cntL b := by
  induction a with
  | nil => rw [List.nil_append, cntL_nil]; omega
  | cons x a ih => rw [List.cons_append, cntL_cons, cntL_cons, ih]; omega
theorem cntL_mem {x : C} {l : List C} (h : x ∈ l) : cntC x ≤ cntL l := by
  induction l with
  | nil => cases h
  | cons y l ih =>
    rw [cntL_cons]
    rcases List.mem_cons.1 h with rfl | h
    · omega
    · have := ih h; omega
theorem cntL_take (l : List C) (k : Nat) (h : k < l.length) : cntL (l.take (k + 1)) = cntL (l.take k) + cntC l[k] := by
  rw [List.take_succ_eq_append_getElem h, cntL_append, cntL_cons, cntL_nil]; omega
theorem cntL_take_le (l : List C) (k : Nat) : cntL (l.take k) ≤ cntL l := by
  have := cntL_append (l.take k) (l.drop k)
  rw [List.take_append_drop] at this
  omega

/-- What a slice reads as is one list. -/
theorem LAt.one {w : World} {B B' : Nat} : ∀ {d d' : Nat} {v : Value} {l l' : List C}, LAt w B d v l → LAt w B' d' v l' → l = l'
  | 0, _, _, _, _, h, _ => h.elim
  | _ + 1, 0, _, _, _, _, h' => h'.elim
  | d + 1, d' + 1, v, l, l', h, h' => by
    obtain ⟨A, cap, rfl, h1, h2, h3⟩ := h
    obtain ⟨A', cap', e, h1', h2', h3'⟩ := h'
    injection e with e1 e2 e3
    subst e1 e3
    apply List.ext_getElem e2
    intro i hi hi'
    obtain ⟨b, o, rfl, hb, hr⟩ := h3 (by omega)
    obtain ⟨b', o', e', hb', hr'⟩ := h3' (by omega)
    injection e' with e'
    injection e' with e4 e5
    subst e4 e5
    obtain ⟨u, r, f, s⟩ := hr i hi
    obtain ⟨u', r', f', s'⟩ := hr' i hi'
    have q0 := r.c0.symm.trans r'.c0
    have q1 := r.c1.symm.trans r'.c1
    have q2 := r.c2.symm.trans r'.c2
    have q3 := r.c3.symm.trans r'.c3
    injection q0 with q0
    injection q0 with _ q0
    injection q1 with q1
    injection q1 with _ q1
    injection q2 with q2
    injection q2 with q2
    injection q3 with q3
    subst q3
    have := LAt.one s s'
    cases hx : l[i] with
    | mk k n s l =>
      cases hy : l'[i] with
      | mk k' n' s' l' =>
        rw [hx] at q0 q1 q2 this
        rw [hy] at q0 q1 q2 this
        simp only [k_mk, n_mk, s_mk, l_mk] at q0 q1 q2 this
        subst q0 q1 q2 this
        rfl

/-- The cell that lies at a place. -/
structure CAt (w : World) (B : Nat) (b o : Nat) (c : C) : Prop where
  row : ∃ u d, RowAt w b o c u ∧ LAt w B d u c.l
end Go.Proofs.YtjanddnlhaionaaGreatDoor.L4
