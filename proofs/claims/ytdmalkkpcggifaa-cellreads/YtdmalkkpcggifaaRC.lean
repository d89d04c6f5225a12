/-
  The contracts of the document's Next and Take. No condition but bounds on lengths.
-/
import Derived.Test.YtdmalkkpcggifaaRB
namespace Go.Proofs.Ytdmalkkpcggifaa
open Go.RowKit

theorem results20 (tmps : Array Value) (w : World) (P : Nat) (k n : Int) (sv : ByteArray) (A : Option Addr) (l cap : Nat) (a b : Int) (hp6 : tmps[4]?.getD undef = .pointer (some ⟨P, 0, none⟩)) (hp7 : tmps[5]?.getD undef = .int .i64 a) (hp8 : tmps[6]?.getD undef = .int .i64 b)
    (h0 : w.heap[P]? = some (.cells #[.int .i64 k, .int .i64 n, .string sv, .slice A l cap] 25 (0, 0))) :
    (results Try.f20 tmps).run Try.prog w = .ok (.tuple #[.agg #[.int .i64 k, .int .i64 n, .string sv, .slice A l cap], .int .i64 a, .int .i64 b]) w := by
  have p0 : w.cell? ⟨P, 0, none⟩ = some (.int .i64 k) := cell_of_row w P 0 _ 25 (0, 0) h0
  have p1 : w.cell? ⟨P, 1, none⟩ = some (.int .i64 n) := cell_of_row w P 1 _ 25 (0, 0) h0
  have p2 : w.cell? ⟨P, 2, none⟩ = some (.string sv) := cell_of_row w P 2 _ 25 (0, 0) h0
  have p3 : w.cell? ⟨P, 3, none⟩ = some (.slice A l cap) := cell_of_row w P 3 _ 25 (0, 0) h0
  simp [results, Try.results20, hp6, hp7, hp8, asAddr, go_sem, p0, p1, p2, p3]
theorem results22 (tmps : Array Value) (w : World) (P : Nat) (k n : Int) (sv : ByteArray) (A : Option Addr) (l cap : Nat) (a : Int) (hp2 : tmps[2]?.getD undef = .pointer (some ⟨P, 0, none⟩)) (hp3 : tmps[3]?.getD undef = .int .i64 a)
    (h0 : w.heap[P]? = some (.cells #[.int .i64 k, .int .i64 n, .string sv, .slice A l cap] 25 (0, 0))) :
    (results Try.f22 tmps).run Try.prog w = .ok (.tuple #[.agg #[.int .i64 k, .int .i64 n, .string sv, .slice A l cap], .int .i64 a]) w := by
  have p0 : w.cell? ⟨P, 0, none⟩ = some (.int .i64 k) := cell_of_row w P 0 _ 25 (0, 0) h0
  have p1 : w.cell? ⟨P, 1, none⟩ = some (.int .i64 n) := cell_of_row w P 1 _ 25 (0, 0) h0
  have p2 : w.cell? ⟨P, 2, none⟩ = some (.string sv) := cell_of_row w P 2 _ 25 (0, 0) h0
  have p3 : w.cell? ⟨P, 3, none⟩ = some (.slice A l cap) := cell_of_row w P 3 _ 25 (0, 0) h0
  simp [results, Try.results22, hp2, hp3, asAddr, go_sem, p0, p1, p2, p3]

set_option maxRecDepth 100000 in
set_option maxHeartbeats 1600000 in
theorem refNext20 (s : ByteArray) (n : Int) (w : World) (hs : s.size ≤ 1000000000) : Calls Try.prog 20 #[.string s, .int .i64 n] w (RefTo w 16 (nextM s n)) := by
  unfold nextM
  by_cases h : n < 0 ∨ (s.size : Int) < n
  · rw [if_pos h]
    by_cases h0 : n < 0
    · clear h
      go_enter Try.func20, Try.ntmps20
      go_wp2_with fail
      refine bodyPost_ret (results20 _ _ w.heap.size 0 0 ⟨#[]⟩ none 0 0 0 2 rfl rfl rfl (heap_alloc_new w _)) rfl ?_
      exact RefTo.plain w _ 0 0 ⟨#[]⟩ _ _
    · have h1 : (s.size : Int) < n := by omega
      clear h
      go_enter Try.func20, Try.ntmps20
      go_wp2_with fail
      refine bodyPost_ret (results20 _ _ w.heap.size 0 0 ⟨#[]⟩ none 0 0 0 2 rfl rfl rfl (heap_alloc_new w _)) rfl ?_
      exact RefTo.plain w _ 0 0 ⟨#[]⟩ _ _
  · rw [if_neg h]
    have h0 : ¬ n < 0 := by omega
    have h1 : ¬ (s.size : Int) < n := by omega
    have hC := refNext32 s hs 16 n.toNat (w.alloc (.cells #[.int .i64 0, .int .i64 0, .string ⟨#[]⟩, .slice none 0 0] 25)) (by omega) (by omega)
    rw [show ((n.toNat : Nat) : Int) = n by omega] at hC
    obtain ⟨⟨xc, xt, xe⟩, hq⟩ : ∃ q, ansOf s.size (parse 16 (s.data.toList.drop n.toNat)) = q := ⟨_, rfl⟩
    rw [hq] at hC ⊢
    have HC := Lib.hid hC
    clear hC hq h
    go_enter Try.func20, Try.ntmps20
    go_wp2_with fail
    refine HC.out.mono ?_
    rintro e w2 ⟨u2, rfl, hL2, hb2⟩
    simp only at hL2 ⊢
    obtain ⟨xk, xn, xs, xl⟩ := xc
    rw [l_mk] at hL2
    obtain ⟨A2, cap2, rfl⟩ := hL2.slice
    obtain ⟨cn2, hcn2⟩ : ∃ cn2, xl.length = cn2 := ⟨_, rfl⟩
    rw [hcn2] at hL2 ⊢
    have HL2 := Lib.hid hL2
    unfold cellV
    simp only [k_mk, n_mk, s_mk]
    have hz : w.heap.size + 1 ≤ w2.heap.size := by have := hb2.size; simpa using this
    have HB0 : Hid (w2.heap[w.heap.size]? = some (.cells #[.int .i64 0, .int .i64 0, .string ⟨#[]⟩, .slice none 0 0] 25 (0, 0))) := (hb2.block _ (by simp)).trans (heap_alloc_new w _)
    have HBW : Hid (Below w.heap.size w w2) := ((Below.refl _ w).alloc (Nat.le_refl _) _).trans (hb2.mono (by simp))
    have HSS := Lib.hid (size_four xk xn xs A2 cn2 cap2)
    have HALL := Lib.hid (all_one xk xn xs A2 cn2 cap2)
    clear hL2 hb2 hcn2 HC
    go_wp2_with (refine wpList_store_row (P := Try.prog) rfl 25 _ _ rfl w.heap.size #[.int .i64 xk, .int .i64 xn, .string xs, .slice A2 cn2 cap2] rfl rfl 25 _ HB0.out HSS.out rfl HALL.out ?_)
    refine bodyPost_ret (results20 _ _ w.heap.size xk xn xs A2 cn2 cap2 xt xe rfl rfl rfl (setRow_heap _ w.heap.size _ _ 25 (0, 0) HB0.out)) rfl ?_
    refine ⟨.slice A2 cn2 cap2, rfl, ?_, HBW.out.trans ⟨rfl, rfl, rfl, by simp, fun i hi => setRow_other _ _ _ _ (by omega)⟩⟩
    rw [setRow_size]
    exact HL2.out.keep (fun b hb => by simp at hb; omega) fun b o' hb => cell_same (setRow_other _ _ _ _ (by simp at hb; omega)) o'

/-- What the document's Take comes to. -/
def RTakeTo (w : World) (a : C × Int) (e : Ending) (w' : World) : Prop :=
  ∃ u, e = .returned (.tuple #[cellV a.1 u, .int .i64 a.2]) ∧ LIn w' (fun b => w.heap.size ≤ b ∧ b < w'.heap.size) 17 u a.1.l ∧ Below w.heap.size w w'
theorem RTakeTo.made {w wr : World} {c : C} {u : Value} {e : Int} {cs : Array Value} (hb : Below w.heap.size w wr) (hL : LIn wr (fun b => w.heap.size + 1 ≤ b ∧ b < wr.heap.size) 17 u c.l) : RTakeTo w (c, e) (.returned (.tuple #[cellV c u, .int .i64 e])) (wr.setRow w.heap.size cs) := by
  refine ⟨u, rfl, ?_, hb.trans ⟨rfl, rfl, rfl, by simp, fun k hk => setRow_other _ _ _ _ (by omega)⟩⟩
  rw [setRow_size]
  exact hL.keep (fun b hb => ⟨by omega, hb.2⟩) fun b o' hb => cell_same (setRow_other _ _ _ _ (by omega)) o'

set_option maxRecDepth 100000 in
set_option maxHeartbeats 1600000 in
theorem refTake22 (s : ByteArray) (w : World) (hs : s.size ≤ 1000000000) : Calls Try.prog 22 #[.string s] w (RTakeTo w (takeM s)) := by
  have HC := Lib.hid (refNext20 s 0 (w.alloc (.cells #[.int .i64 0, .int .i64 0, .string ⟨#[]⟩, .slice none 0 0] 25)) hs)
  unfold takeM
  obtain ⟨⟨c, to, er⟩, hn⟩ : ∃ x, nextM s 0 = x := ⟨_, rfl⟩
  have HNB := Lib.hid (fun (h : er ≠ 0) => next_bad hn h)
  rw [hn] at HC ⊢
  clear hn
  simp only
  obtain ⟨ans, hans⟩ : ∃ ans, (if er = 0 ∧ to < (s.size : Int) then (zeroC, 4) else (c, er)) = ans := ⟨_, rfl⟩
  rw [hans]
  have HA := Lib.hid hans
  clear hans
  go_enter Try.func22, Try.ntmps22
  go_wp2_with fail
  refine HC.out.mono ?_
  rintro e w2 ⟨u, rfl, hL, hb⟩
  simp only at hL ⊢
  obtain ⟨A, cap, rfl⟩ := hL.slice
  obtain ⟨ck, cn, cs, cl⟩ := c
  rw [l_mk] at hL ⊢
  have HL := Lib.hid hL
  obtain ⟨cl2, hcl2⟩ : ∃ cl2, cl.length = cl2 := ⟨_, rfl⟩
  rw [hcl2] at HL ⊢
  have hP : w2.heap[w.heap.size]? = some (.cells #[.int .i64 0, .int .i64 0, .string ⟨#[]⟩, .slice none 0 0] 25 (0, 0)) := by
    rw [hb.block w.heap.size (by simp)]
    exact heap_alloc_new w _
  have hbw : Below w.heap.size w w2 := ((Below.refl _ w).alloc (Nat.le_refl _) _).trans (hb.mono (by simp))
  have hz : w.heap.size + 1 ≤ w2.heap.size := by have := hb.size; simpa using this
  unfold cellV
  simp only [k_mk, n_mk, s_mk]
  have HP := Lib.hid hP
  have HB := Lib.hid hbw
  clear hL hb hcl2 hP hbw HC
  have HP2 : Hid ((w2.alloc (.cells #[.int .i64 ck, .int .i64 cn, .string cs, .slice A cl2 cap] 25)).heap[w.heap.size]? = some (.cells #[.int .i64 0, .int .i64 0, .string ⟨#[]⟩, .slice none 0 0] 25 (0, 0))) := by
    unfold Hid
    rw [Below.heap_alloc _ _ _ (by omega)]
    exact HP.out
  have HB2 : Hid (Below w.heap.size w (w2.alloc (.cells #[.int .i64 ck, .int .i64 cn, .string cs, .slice A cl2 cap] 25))) := HB.out.alloc (by omega) _
  have HL2 : Hid (LIn (w2.alloc (.cells #[.int .i64 ck, .int .i64 cn, .string cs, .slice A cl2 cap] 25)) (fun b => w.heap.size + 1 ≤ b ∧ b < (w2.alloc (.cells #[.int .i64 ck, .int .i64 cn, .string cs, .slice A cl2 cap] 25)).heap.size) 17 (.slice A cl2 cap) cl) :=
    HL.out.keep (fun b hb => by simp at hb ⊢; omega) fun b o' hb => cell_same (Below.heap_alloc _ _ _ hb.2) o'
  clear HP HB HL
  have HSS0 := Lib.hid (size_four 0 0 ⟨#[]⟩ none 0 0)
  have HALL0 := Lib.hid (all_one 0 0 ⟨#[]⟩ none 0 0)
  by_cases he : er = 0
  · have he' : (er != 0) = false := by simpa using he
    by_cases ht : to < (s.size : Int)
    · have hans : ans = (zeroC, 4) := by rw [← HA.out, if_pos ⟨he, ht⟩]
      subst hans
      clear HA he HNB
      go_wp2_with (refine wpList_store_row (P := Try.prog) rfl 25 _ _ rfl w.heap.size #[.int .i64 0, .int .i64 0, .string ⟨#[]⟩, .slice none 0 0] rfl rfl 25 _ HP2.out HSS0.out rfl HALL0.out ?_)
      refine bodyPost_ret (results22 _ _ w.heap.size 0 0 ⟨#[]⟩ none 0 0 4 rfl rfl (setRow_heap _ w.heap.size _ _ 25 (0, 0) HP2.out)) rfl ?_
      exact RTakeTo.made (c := zeroC) HB2.out (LIn.nil _ _ _)
    · have hans : ans = (.mk ck cn cs cl, er) := by rw [← HA.out, if_neg (fun h => ht h.2)]
      subst hans
      clear HA HNB
      subst he
      have HSS := Lib.hid (size_four ck cn cs A cl2 cap)
      have HALL := Lib.hid (all_one ck cn cs A cl2 cap)
      go_wp2_with (refine wpList_store_row (P := Try.prog) rfl 25 _ _ rfl w.heap.size #[.int .i64 ck, .int .i64 cn, .string cs, .slice A cl2 cap] rfl rfl 25 _ HP2.out HSS.out rfl HALL.out ?_)
      refine bodyPost_ret (results22 _ _ w.heap.size ck cn cs A cl2 cap 0 rfl rfl (setRow_heap _ w.heap.size _ _ 25 (0, 0) HP2.out)) rfl ?_
      exact RTakeTo.made (c := .mk ck cn cs cl) HB2.out (HL2.out)
  · have he' : (er != 0) = true := by simpa using he
    have hans : ans = (zeroC, er) := by rw [← HA.out, if_neg (fun h => he h.1), HNB.out he]
    subst hans
    clear HA he HNB
    go_wp2_with (refine wpList_store_row (P := Try.prog) rfl 25 _ _ rfl w.heap.size #[.int .i64 0, .int .i64 0, .string ⟨#[]⟩, .slice none 0 0] rfl rfl 25 _ HP2.out HSS0.out rfl HALL0.out ?_)
    refine bodyPost_ret (results22 _ _ w.heap.size 0 0 ⟨#[]⟩ none 0 0 er rfl rfl (setRow_heap _ w.heap.size _ _ 25 (0, 0) HP2.out)) rfl ?_
    exact RTakeTo.made (c := zeroC) HB2.out (LIn.nil _ _ _)
end Go.Proofs.Ytdmalkkpcggifaa
