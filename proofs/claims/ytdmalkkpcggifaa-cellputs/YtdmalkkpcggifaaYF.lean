/-
  The contracts of List and of CellPuts. No condition but that no cell that came in is frozen.
-/
import Derived.Test.YtdmalkkpcggifaaYE
namespace Go.Proofs.Ytdmalkkpcggifaa
open Go.RowKit

set_option maxRecDepth 100000 in
set_option maxHeartbeats 1600000 in
theorem list18 (l : List C) (v : Value) (d : Nat) (w : World) (h : LNF w w.heap.size d v l) (hcnt : cntL l ≤ 5000) :
    Calls Try.prog 18 #[v] w fun e w' => ∃ A n cap D, e = .returned (.agg #[.int .i64 3, .int .i64 0, .string ⟨#[]⟩, .slice A n cap]) ∧ LAt w' w'.heap.size D (.slice A n cap) l ∧ Below w.heap.size w w' := by
  have HC := Lib.hid (copyOf29 w.heap.size l v d (w.alloc (.cells #[.int .i64 0, .int .i64 0, .string ⟨#[]⟩, .slice none 0 0] 25)) (by simp) (h.keep (Nat.le_refl _) (fun k hk => Below.heap_alloc _ _ _ hk)) hcnt)
  obtain ⟨A0, cap0, rfl⟩ := h.slice
  obtain ⟨ln0, hln0⟩ : ∃ x, l.length = x := ⟨_, rfl⟩
  rw [hln0] at HC ⊢
  clear h hln0
  go_enter Try.func18, Try.ntmps18
  go_wp2_with fail
  refine HC.out.mono ?_
  rintro e w2 ⟨A, n, cap, D, rfl, hL, hb⟩
  have hz : w.heap.size + 1 ≤ w2.heap.size := by have := hb.size; simpa using this
  have hwa : (w.alloc (.cells #[.int .i64 0, .int .i64 0, .string ⟨#[]⟩, .slice none 0 0] 25)).heap.size = w.heap.size + 1 := by simp
  have hP : w2.heap[w.heap.size]? = some (.cells #[.int .i64 0, .int .i64 0, .string ⟨#[]⟩, .slice none 0 0] 25 (0, 0)) := (hb.block w.heap.size (by simp)).trans (heap_alloc_new w _)
  have HP := Lib.hid hP
  have HSS := Lib.hid (size_four 3 0 ⟨#[]⟩ A n cap)
  have HALL := Lib.hid (all_one 3 0 ⟨#[]⟩ A n cap)
  have HE : Hid (LAt (w2.setRow w.heap.size #[.int .i64 3, .int .i64 0, .string ⟨#[]⟩, .slice A n cap]) (w2.setRow w.heap.size #[.int .i64 3, .int .i64 0, .string ⟨#[]⟩, .slice A n cap]).heap.size D (.slice A n cap) l ∧ Below w.heap.size w (w2.setRow w.heap.size #[.int .i64 3, .int .i64 0, .string ⟨#[]⟩, .slice A n cap])) := by
    refine ⟨?_, ((Below.refl _ w).alloc (Nat.le_refl _) _).trans ((hb.mono (by simp)).trans ⟨rfl, rfl, rfl, by simp, fun k hk => setRow_other _ _ _ _ (by omega)⟩)⟩
    refine LIn.lat (S := SS w.heap.size (w.alloc (.cells #[.int .i64 0, .int .i64 0, .string ⟨#[]⟩, .slice none 0 0] 25)) w2) (fun b hS => by rw [setRow_size]; exact hS.lt (by simp) hb.size) (hL.keep (fun b hS => hS) fun b o hS => cell_same (setRow_other _ _ _ _ ?_) o)
    rcases hS with h | ⟨h, _⟩
    · omega
    · rw [hwa] at h; omega
  clear hL hb hP HC hwa
  go_wp2_with (refine wpList_store_row (P := Try.prog) rfl 25 _ _ rfl w.heap.size #[.int .i64 3, .int .i64 0, .string ⟨#[]⟩, .slice A n cap] rfl rfl 25 _ HP.out HSS.out rfl HALL.out ?_)
  refine bodyPost_ret (results_cell_row (p := 2) (ty := 25) rfl _ _ w.heap.size 25 #[.int .i64 3, .int .i64 0, .string ⟨#[]⟩, .slice A n cap] (0, 0) _ ?hp (setRow_heap _ w.heap.size _ _ 25 (0, 0) HP.out) Try.underlying25 rfl (by exact HSS.out)) rfl ?_
  case hp => simp [Act.put]
  exact ⟨A, n, cap, D, rfl, HE.out⟩

set_option maxRecDepth 100000 in
set_option maxHeartbeats 6400000 in
theorem puts3 (d : Nat) (ck cn : Int) (cs : ByteArray) (cl : List C) (u : Value) (n : Int) (s : ByteArray) (w : World) (h : LNF w w.heap.size d u cl) (hcs : cs.size ≤ 9223372036854775807) (hn0 : -9223372036854775808 ≤ cn) (hn1 : cn ≤ 9223372036854775807) :
    Calls Try.prog 3 #[.agg #[.int .i64 ck, .int .i64 cn, .string cs, u], .int .i64 n, .string s] w fun e w' => e = .returned (.bool true) ∧ Below w.heap.size w w' := by
  have HB := Lib.hid (Box.new w (.mk ck cn cs cl) u)
  have HN := Lib.hid h
  have HL := Lib.hid h.lat
  have HSM := Lib.hid (small7 d ck cn cs cl u (w.alloc (.cells #[.int .i64 ck, .int .i64 cn, .string cs, u] 25)) (h.lat.step HB.out.old) hcs)
  obtain ⟨A, cap, rfl⟩ := h.slice
  generalize hcl : cl.length = cln at HB HL HSM HN ⊢
  clear h hcs hcl
  by_cases hsm : ¬ 0 < fewM 40 (.mk ck cn cs cl) 5000
  · rw [decide_eq_false hsm] at HSM
    clear hsm
    go_enter Try.func3, Try.ntmps3
    go_wp2_with fail
    refine HSM.out.mono ?_
    rintro e w2 ⟨rfl, hb2⟩
    have HX := Lib.hid (HB.out.step hb2)
    clear hb2 HB
    go_wp2_with fail
    refine (lives8 w2).mono ?_
    rintro e w3 ⟨rfl, hb3⟩
    have HX3 := Lib.hid (HX.out.step hb3)
    clear hb3 HX
    go_wp2_with fail
    go_ret
    exact ⟨rfl, HX3.out.old⟩
  replace hsm := Decidable.not_not.1 hsm
  have HSM2 := Lib.hid hsm
  rw [decide_eq_true hsm] at HSM
  clear hsm
  by_cases hs1 : (1000 : Int) < s.size
  · go_enter Try.func3, Try.ntmps3
    go_wp2_with fail
    refine HSM.out.mono ?_
    rintro e w2 ⟨rfl, hb2⟩
    have HX := Lib.hid (HB.out.step hb2)
    clear hb2 HB
    go_wp2_with fail
    refine (lives8 w2).mono ?_
    rintro e w3 ⟨rfl, hb3⟩
    have HX3 := Lib.hid (HX.out.step hb3)
    clear hb3 HX
    go_wp2_with fail
    go_ret
    exact ⟨rfl, HX3.out.old⟩
  have HLEN : Hid (okC 16 (.mk ck cn cs cl) = true → (encC 16 (.mk ck cn cs cl)).length ≤ 1000000) := fun hok => Nat.le_trans (few_len HSM2.out hok) (by omega)
  have hcnt : cntL cl ≤ 5000 := by
    have := few_cnt 40 _ _ HSM2.out
    rw [cntC_mk] at this
    have h2 := HSM2.out
    omega
  have HK9 : Hid (∀ W, Box w (.mk ck cn cs cl) (.slice A cln cap) W → _) := fun W hB => put9 d ck cn cs cl (.slice A cln cap) W (HL.out.step hB.old) hn0 hn1 HLEN.out
  have HK10 : Hid (∀ W, Box w (.mk ck cn cs cl) (.slice A cln cap) W → _) := fun W hB => refPut10 d ck cn cs cl (.slice A cln cap) W (HL.out.step hB.old) hn0 hn1 HLEN.out
  have HK11 : Hid (∀ W, Box w (.mk ck cn cs cl) (.slice A cln cap) W → _) := fun W hB => check11 d ck cn cs cl (.slice A cln cap) W (HL.out.step hB.old)
  have HK12 : Hid (∀ W, Box w (.mk ck cn cs cl) (.slice A cln cap) W → _) := fun W hB => refCheck12 d ck cn cs cl (.slice A cln cap) W (HL.out.step hB.old)
  have HK13 : Hid (∀ W, Box w (.mk ck cn cs cl) (.slice A cln cap) W → _) := fun W hB => size13 d ck cn cs cl (.slice A cln cap) W (HL.out.step hB.old) hn0 hn1 HLEN.out
  have HK14 : Hid (∀ W, Box w (.mk ck cn cs cl) (.slice A cln cap) W → _) := fun W hB => refSize14 d ck cn cs cl (.slice A cln cap) W (HL.out.step hB.old) hn0 hn1 HLEN.out
  have HK18 : Hid (∀ W, Box w (.mk ck cn cs cl) (.slice A cln cap) W → _) := fun W hB => list18 cl (.slice A cln cap) d W (HN.out.keep hB.old.size (fun k hk => hB.old.block k hk)) hcnt
  have HK15 : Hid (∀ W A18 n18 cap18 D18, LAt W W.heap.size D18 (.slice A18 n18 cap18) cl → Box w (.mk ck cn cs cl) (.slice A cln cap) W → Calls Try.prog 15 #[.agg #[.int .i64 3, .int .i64 0, .string ⟨#[]⟩, .slice A18 n18 cap18], .agg #[.int .i64 3, .int .i64 0, .string ⟨#[]⟩, .slice A cln cap]] W fun e w' => e = .returned (.bool true) ∧ Below W.heap.size W w') := fun W A18 n18 cap18 D18 h1 hB => by
    have := same15 D18 d 3 0 ⟨#[]⟩ cl (.slice A18 n18 cap18) 3 0 ⟨#[]⟩ cl (.slice A cln cap) W h1 (HL.out.step hB.old)
    rw [sameB_self] at this
    exact this
  have HS1 : Hid (∀ W, Calls Try.prog 15 #[.agg #[.int .i64 1, .int .i64 n, .string ⟨#[]⟩, .slice none 0 0], .agg #[.int .i64 1, .int .i64 n, .string ⟨#[]⟩, .slice none 0 0]] W fun e w' => e = .returned (.bool true) ∧ Below W.heap.size W w') := fun W => by
    have := same15 1 1 1 n ⟨#[]⟩ [] (.slice none 0 0) 1 n ⟨#[]⟩ [] (.slice none 0 0) W (LAt.nil _ _ _) (LAt.nil _ _ _)
    rw [sameB_self] at this
    exact this
  have HS2 : Hid (∀ W, Calls Try.prog 15 #[.agg #[.int .i64 2, .int .i64 0, .string s, .slice none 0 0], .agg #[.int .i64 2, .int .i64 0, .string s, .slice none 0 0]] W fun e w' => e = .returned (.bool true) ∧ Below W.heap.size W w') := fun W => by
    have := same15 1 1 2 0 s [] (.slice none 0 0) 2 0 s [] (.slice none 0 0) W (LAt.nil _ _ _) (LAt.nil _ _ _)
    rw [sameB_self] at this
    exact this
  have HN16 := Lib.hid (fun W => num16 n W)
  have HT17 := Lib.hid (fun W => text17 s W)
  have HLV := Lib.hid lives8
  obtain ⟨ps, hps⟩ : ∃ ps, putS (.mk ck cn cs cl) = ps := ⟨_, rfl⟩
  obtain ⟨pe, hpe⟩ : ∃ pe, putE (.mk ck cn cs cl) = pe := ⟨_, rfl⟩
  obtain ⟨ce, hce⟩ : ∃ ce : Int, (if okC 16 (.mk ck cn cs cl) = true then (0 : Int) else 2) = ce := ⟨_, rfl⟩
  rw [hps, hpe] at HK9 HK10
  rw [hps] at HK13 HK14
  rw [hce] at HK11 HK12
  clear hps hpe hce HLEN HSM2 HN HL hcnt
  go_enter Try.func3, Try.ntmps3
  go_wp2_with fail
  refine HSM.out.mono ?_
  rintro e w2 ⟨rfl, hb2⟩
  have hS := HB.out.step hb2
  obtain ⟨b0, b1, b2, b3, -⟩ := box4 hS
  have HX := Lib.hid hS
  clear hb2 HB hS HSM
  go_wp2_with fail
  refine (HK9.out w2 HX.out).mono ?_
  rintro e w3 ⟨rfl, hb3⟩
  have hS := HX.out.step hb3
  clear b0 b1 b2 b3 hb3 HX HK9
  obtain ⟨b0, b1, b2, b3, -⟩ := box4 hS
  have HX := Lib.hid hS
  clear hS
  go_wp2_with fail
  refine (HK10.out w3 HX.out).mono ?_
  rintro e w4 ⟨rfl, hb4⟩
  have hS := HX.out.step hb4
  clear b0 b1 b2 b3 hb4 HX HK10
  have hSd := hS.drew
  clear hS
  go_wp2_with fail
  go_region_held3 (fun w' => w'.cell? ⟨w.heap.size, 0, none⟩ = some (.int .i64 ck) ∧ w'.cell? ⟨w.heap.size, 1, none⟩ = some (.int .i64 cn) ∧ w'.cell? ⟨w.heap.size, 2, none⟩ = some (.string cs) ∧ w'.cell? ⟨w.heap.size, 3, none⟩ = some (.slice A cln cap) ∧ Box w (.mk ck cn cs cl) (.slice A cln cap) w')
    ((apply box4; assumption))
    (first | (go_at_call 11; refine (HK11.out _ (by assumption)).mono ?_; rintro e w' ⟨rfl, hbb⟩; have hBx := Box.step (by assumption) hbb) | (go_at_call 12; refine (HK12.out _ (by assumption)).mono ?_; rintro e w' ⟨rfl, hbb⟩; have hBx := Box.step (by assumption) hbb) | (go_at_call 13; refine (HK13.out _ (by assumption)).mono ?_; rintro e w' ⟨rfl, hbb⟩; have hBx := Box.step (by assumption) hbb) | (go_at_call 14; refine (HK14.out _ (by assumption)).mono ?_; rintro e w' ⟨rfl, hbb⟩; have hBx := Box.step (by assumption) hbb) | (go_at_call 16; refine (HN16.out _).mono ?_; rintro e w' ⟨rfl, hbb⟩; have hBx := Box.step (by assumption) hbb) | (go_at_call 17; refine (HT17.out _).mono ?_; rintro e w' ⟨rfl, hbb⟩; have hBx := Box.step (by assumption) hbb) | (go_at_call 18; refine (HK18.out _ (by assumption)).mono ?_; rintro e w' ⟨A18, n18, cap18, D18, rfl, hL18, hbb⟩; have hBx := Box.step (by assumption) hbb; have HS3 := Lib.hid (HK15.out w' A18 n18 cap18 D18 hL18 hBx)) | (go_at_call 15; (with_reducible refine (HS1.out _).mono ?_); rintro e w' ⟨rfl, hbb⟩; have hBx := Box.step (by assumption) hbb) | (go_at_call 15; (with_reducible refine (HS2.out _).mono ?_); rintro e w' ⟨rfl, hbb⟩; have hBx := Box.step (by assumption) hbb) | (go_at_call 15; (with_reducible refine (HS3.out).mono ?_); rintro e w' ⟨rfl, hbb⟩; have hBx := Box.step (by assumption) hbb) | (go_at_call 8; refine (HLV.out _).mono ?_; rintro e w' ⟨rfl, hbb⟩; have hBx := Box.step (by assumption) hbb))
  rename_i hHeld
  have hbw : Below w.heap.size w w' := hHeld.2.2.2.2.old
  clear hHeld
  go_wp2
  go_ret
  exact ⟨rfl, hbw⟩
end Go.Proofs.Ytdmalkkpcggifaa
