import Derived.Test.YtapfhonapejpjaaM
import Derived.Test.YtapfhonapejpjaaY
namespace Go.Proofs.Ytapfhonapejpjaa
open Go.RowKit

/-- Parse, told by its five answers. -/
theorem parse20' (s : ByteArray) (k n : Int) (t : ByteArray) (a e : Int) (h : parseR s.data.toList = ⟨k, n, t, a, e⟩) (w : World) :
    Calls Try.prog 20 #[.string s] w fun e' w' => e' = .returned (.tuple #[.agg #[.int .i64 k, .int .i64 n, .string t], .int .i64 a, .int .i64 e]) ∧ Below w.heap.size w w' := by
  have := parse20 s w
  rw [h] at this
  exact this

theorem pres_eta (p : PRes) : p = ⟨p.k, p.n, p.s, p.at', p.e⟩ := rfl

theorem below2 {w w1 : World} (h : Below w.heap.size w w1) (o : Obj) {w2 : World} (h2 : Below (w1.alloc o).heap.size (w1.alloc o) w2) : Below w.heap.size w w2 :=
  (h.alloc h.size o).trans (h2.mono (by have := h.size; simp; omega))

set_option maxHeartbeats 1000000 in
theorem cuts7 (s : ByteArray) (w : World) :
    Calls Try.prog 7 #[.string s] w fun e w' => e = .returned (.bool true) ∧ Below w.heap.size w w' := by
  have HL := Lib.hid lives9
  by_cases hs : (5000 : Int) < s.size
  · go_enter Try.func7, Try.ntmps7
    go_wp2_with (go_at_call 9; go_must (refine (HL.out _).mono ?_); rintro e w1 ⟨rfl, hb1⟩)
    go_ret
    exact ⟨rfl, hb1⟩
  have hcut := parse_cut s.data.toList
  have HP := Lib.hid (parse20' s _ _ _ _ _ (pres_eta _))
  have hlen : s.data.toList.length = s.size := rfl
  rw [hlen] at hcut
  rcases hcut with h0 | ⟨h3, h3'⟩ | ⟨h4, n, hn, hnl, hcut⟩
  · generalize parseR s.data.toList = pr at h0 HP
    obtain ⟨k, m, t, a, e⟩ := pr
    simp only at h0 HP
    have b1 : (e != 4) = true := by simp; omega
    have b2 : (e != 3) = true := by simp; omega
    clear h0
    go_enter Try.func7, Try.ntmps7
    go_wp2_with fail
    refine (HP.out _).mono ?_
    rintro e1 w1 ⟨rfl, hb1⟩
    go_wp2_with fail
    refine (HL.out _).mono ?_
    rintro e2 w2 ⟨rfl, hb2⟩
    go_wp2
    go_ret
    exact ⟨rfl, below2 hb1 _ hb2⟩
  · generalize parseR s.data.toList = pr at h3 h3' HP
    obtain ⟨k, m, t, a, e⟩ := pr
    simp only at h3 h3' HP
    subst h3
    subst h3'
    clear hlen
    go_enter Try.func7, Try.ntmps7
    go_wp2_with fail
    refine (HP.out _).mono ?_
    rintro e1 w1 ⟨rfl, hb1⟩
    go_wp2_with fail
    refine (HP.out _).mono ?_
    rintro e1 w2 ⟨rfl, hb2⟩
    have hbw := below2 hb1 _ hb2
    clear hb1 hb2
    go_wp2_with fail
    refine (HL.out _).mono ?_
    rintro e2 w3 ⟨rfl, hb3⟩
    go_wp2
    go_ret
    exact ⟨rfl, below2 hbw _ hb3⟩
  · generalize parseR s.data.toList = pr at h4 hn HP
    obtain ⟨k, m, t, a, e⟩ := pr
    simp only at h4 hn HP
    subst h4
    subst hn
    have HQ := Lib.hid (parse20' (s.extract 0 n) _ _ _ _ _ (pres_eta _))
    rw [extract_list, List.drop_zero, Nat.sub_zero] at HQ
    generalize parseR (s.data.toList.take n) = pr2 at hcut HQ
    obtain ⟨k2, m2, t2, a2, e2⟩ := pr2
    simp only at hcut HQ
    clear hlen
    rcases hcut with rfl | rfl | ⟨rfl, rfl⟩
    all_goals
      go_enter Try.func7, Try.ntmps7
      go_wp2_with fail
      refine (HP.out _).mono ?_
      rintro e1 w1 ⟨rfl, hb1⟩
      go_wp2_with fail
      refine (HQ.out _).mono ?_
      rintro e1 w2 ⟨rfl, hb2⟩
      have hbw := below2 hb1 _ hb2
      clear hb1 hb2
      go_wp2_with fail
      refine (HL.out _).mono ?_
      rintro e2 w3 ⟨rfl, hb3⟩
      go_wp2
      go_ret
      exact ⟨rfl, below2 hbw _ hb3⟩
end Go.Proofs.Ytapfhonapejpjaa
