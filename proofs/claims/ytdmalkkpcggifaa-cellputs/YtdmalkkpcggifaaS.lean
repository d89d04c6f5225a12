/-
  The contract of lives. No condition.
-/
import Derived.Test.YtdmalkkpcggifaaR
import Derived.Deep.RegionHeld3
namespace Go.Proofs.Ytdmalkkpcggifaa
open Go.RowKit

theorem LAt.nil (w : World) (B d : Nat) : LAt w B (d + 1) (.slice none 0 0) [] := ⟨none, 0, rfl, Nat.le_refl _, Nat.zero_le _, fun h => by simp at h⟩

theorem ok300 : okC 16 (.mk 1 300 ⟨#[]⟩ []) = true := by rw [okC_succ]; simp [ByteArray.toList_eq]
theorem okm1 : okC 16 (.mk 1 (-1) ⟨#[]⟩ []) = true := by rw [okC_succ]; simp [ByteArray.toList_eq]
theorem okl : okC 16 (.mk 3 0 ⟨#[]⟩ [.mk 1 1 ⟨#[]⟩ [], .mk 2 0 ⟨#[]⟩ []]) = true := by
  rw [okC_succ]
  simp [ByteArray.toList_eq, okC_succ]
  decide
theorem enc300 : encC 16 (.mk 1 300 ⟨#[]⟩ []) = [18, 1, 44] := by kernel_rfl
theorem encm1 : encC 16 (.mk 1 (-1) ⟨#[]⟩ []) = [32] := by kernel_rfl
theorem encl : encC 16 (.mk 3 0 ⟨#[]⟩ [.mk 1 1 ⟨#[]⟩ [], .mk 2 0 ⟨#[]⟩ []]) = [65, 2, 17, 1, 48] := by kernel_rfl
theorem put300 (u : Value) (d : Nat) (w : World) (h : LAt w w.heap.size d u []) : Calls Try.prog 9 #[.agg #[.int .i64 1, .int .i64 300, .string ⟨#[]⟩, u]] w fun e w' => e = .returned (.tuple #[.string ⟨#[18, 1, 44]⟩, .int .i64 0]) ∧ Below w.heap.size w w' := by
  have := put9 d 1 300 ⟨#[]⟩ [] u w h (by omega) (by omega) (fun _ => by rw [enc300]; decide)
  unfold putS putE at this
  rw [ok300, enc300] at this
  exact this
theorem putm1 (u : Value) (d : Nat) (w : World) (h : LAt w w.heap.size d u []) : Calls Try.prog 9 #[.agg #[.int .i64 1, .int .i64 (-1), .string ⟨#[]⟩, u]] w fun e w' => e = .returned (.tuple #[.string ⟨#[32]⟩, .int .i64 0]) ∧ Below w.heap.size w w' := by
  have := put9 d 1 (-1) ⟨#[]⟩ [] u w h (by omega) (by omega) (fun _ => by rw [encm1]; decide)
  unfold putS putE at this
  rw [okm1, encm1] at this
  exact this
theorem putl (u : Value) (d : Nat) (w : World) (h : LAt w w.heap.size d u [.mk 1 1 ⟨#[]⟩ [], .mk 2 0 ⟨#[]⟩ []]) : Calls Try.prog 9 #[.agg #[.int .i64 3, .int .i64 0, .string ⟨#[]⟩, u]] w fun e w' => e = .returned (.tuple #[.string ⟨#[65, 2, 17, 1, 48]⟩, .int .i64 0]) ∧ Below w.heap.size w w' := by
  have := put9 d 3 0 ⟨#[]⟩ [.mk 1 1 ⟨#[]⟩ [], .mk 2 0 ⟨#[]⟩ []] u w h (by omega) (by omega) (fun _ => by rw [encl]; decide)
  unfold putS putE at this
  rw [okl, encl] at this
  exact this
theorem nextab (w : World) : Calls Try.prog 19 #[.string ⟨#[120, 49, 2, 97, 98, 121]⟩, .int .i64 1] w fun e w' => ∃ A cap, e = .returned (.tuple #[.agg #[.int .i64 2, .int .i64 0, .string ⟨#[97, 98]⟩, .slice A 0 cap], .int .i64 5, .int .i64 0]) ∧ LAt w' w'.heap.size 16 (.slice A 0 cap) [] ∧ Below w.heap.size w w' := by
  have := next19 ⟨#[120, 49, 2, 97, 98, 121]⟩ 1 w (by show 6 ≤ _; omega)
  have e : nextM ⟨#[120, 49, 2, 97, 98, 121]⟩ 1 = (.mk 2 0 ⟨#[97, 98]⟩ [], 5, 0) := by kernel_rfl
  rw [e] at this
  refine this.mono ?_
  rintro e w' ⟨u, rfl, hL, hb⟩
  have hL2 := hL.lat (B := w'.heap.size) fun b hb => hb.2
  obtain ⟨A, cap, rfl⟩ := hL.slice
  exact ⟨A, cap, rfl, hL2, hb⟩

theorem two_flat (w : World) : ∀ j u, (flatV [.mk 1 1 ⟨#[]⟩ [], .mk 2 0 ⟨#[]⟩ []])[j]? = some u → (w.alloc (.cells #[.int .i64 1, .int .i64 1, .string ⟨#[]⟩, .slice none 0 0, .int .i64 2, .int .i64 0, .string ⟨#[]⟩, .slice none 0 0] 25)).cell? ((⟨w.heap.size, 0, none⟩ : Addr).add j) = some u :=
  World.news_of_block (cs := #[.int .i64 1, .int .i64 1, .string ⟨#[]⟩, .slice none 0 0, .int .i64 2, .int .i64 0, .string ⟨#[]⟩, .slice none 0 0]) (t := 25) (fr := (0, 0)) (heap_alloc_new w _)
theorem two_wf : ∀ c ∈ [C.mk 1 1 ⟨#[]⟩ [], C.mk 2 0 ⟨#[]⟩ []], Wf c ∧ c.l = [] := by
  intro c hc
  simp only [List.mem_cons, List.not_mem_nil, or_false] at hc
  rcases hc with rfl | rfl <;> exact ⟨⟨by simp [k_mk], by simp [k_mk], by simp [n_mk], by simp [n_mk], Nat.zero_le _⟩, rfl⟩
theorem list_two (w : World) : Calls Try.prog 18 #[.slice (some ⟨w.heap.size, 0, none⟩) 2 2] (w.alloc (.cells #[.int .i64 1, .int .i64 1, .string ⟨#[]⟩, .slice none 0 0, .int .i64 2, .int .i64 0, .string ⟨#[]⟩, .slice none 0 0] 25)) fun e w' => ∃ A cap, e = .returned (.agg #[.int .i64 3, .int .i64 0, .string ⟨#[]⟩, .slice A 2 cap]) ∧ LAt w' w'.heap.size 2 (.slice A 2 cap) [.mk 1 1 ⟨#[]⟩ [], .mk 2 0 ⟨#[]⟩ []] ∧ Below w.heap.size w w' := by
  refine (list18_flat w.heap.size 0 2 [.mk 1 1 ⟨#[]⟩ [], .mk 2 0 ⟨#[]⟩ []] _ (by decide) (by decide) two_wf (two_flat w)).mono ?_
  rintro e w' ⟨u, rfl, hL, hb⟩
  have hL2 := hL
  obtain ⟨A, cap, rfl⟩ := hL.slice
  exact ⟨A, cap, rfl, hL2, ((Below.refl _ w).alloc (Nat.le_refl _) _).trans (hb.mono (by simp))⟩

theorem Box.drew {w : World} {c : C} {u : Value} {w' : World} (h : Box w c u w') : Box w c u w'.drew := ⟨h.below.drew⟩
theorem box4 {w w' : World} {k n : Int} {s : ByteArray} {l : List C} {u : Value} (h : Box w (.mk k n s l) u w') : w'.cell? ⟨w.heap.size, 0, none⟩ = some (.int .i64 k) ∧ w'.cell? ⟨w.heap.size, 1, none⟩ = some (.int .i64 n) ∧ w'.cell? ⟨w.heap.size, 2, none⟩ = some (.string s) ∧ w'.cell? ⟨w.heap.size, 3, none⟩ = some u ∧ Box w (.mk k n s l) u w' :=
  ⟨h.cell 0, h.cell 1, h.cell 2, h.cell 3, h⟩

set_option maxRecDepth 100000 in
set_option maxHeartbeats 3200000 in
theorem lives8 (w : World) : Calls Try.prog 8 #[] w fun e w' => e = .returned (.bool true) ∧ Below w.heap.size w w' := by
  go_enter Try.func8, Try.ntmps8
  go_wp2_with fail
  refine (num16 300 w).mono ?_
  rintro e w1 ⟨rfl, h1⟩
  have HB := Lib.hid h1
  clear h1
  go_wp2_with fail
  refine (put300 _ 1 w1 (LAt.nil _ _ _)).mono ?_
  rintro e w2 ⟨rfl, h2⟩
  have HB2 := Lib.hid (HB.out.trans (h2.mono HB.out.size))
  clear h2 HB
  go_wp2_with fail
  refine (num16 1 w2).mono ?_
  rintro e w3 ⟨rfl, h3⟩
  have HB3 := Lib.hid (HB2.out.trans (h3.mono HB2.out.size))
  clear h3 HB2
  go_wp2_with fail
  refine (text17 ⟨#[]⟩ w3).mono ?_
  rintro e w4 ⟨rfl, h4⟩
  have HB4 := Lib.hid (HB3.out.trans (h4.mono HB3.out.size))
  clear h4 HB3
  go_wp2_with fail
  refine (list_two w4).mono ?_
  rintro e w5 ⟨A, cap, rfl, hL, h5⟩
  have HB5 := Lib.hid (HB4.out.trans (h5.mono HB4.out.size))
  have HL := Lib.hid hL
  clear h5 HB4 hL
  go_wp2_with fail
  refine (putl _ 2 w5 HL.out).mono ?_
  rintro e w6 ⟨rfl, h6⟩
  have HB6 := Lib.hid (HB5.out.trans (h6.mono HB5.out.size))
  clear h6 HB5 HL
  go_wp2_with fail
  refine (nextab w6).mono ?_
  rintro e w7 ⟨A7, cap7, rfl, hL, h7⟩
  have HB7 := Lib.hid (HB6.out.trans (h7.mono HB6.out.size))
  have HL := Lib.hid hL
  clear h7 HB6 hL
  go_wp2_with fail
  refine (num16 (-1) _).mono ?_
  rintro e w8 ⟨rfl, h8⟩
  have HB8 := Lib.hid h8
  clear h8
  go_wp2_with fail
  refine (putm1 _ 1 w8 (LAt.nil _ _ _)).mono ?_
  rintro e w9 ⟨rfl, h9⟩
  have HX : Hid (Box w7 (.mk 2 0 ⟨#[97, 98]⟩ []) (.slice A7 0 cap7) w9) := ((Box.new w7 (.mk 2 0 ⟨#[97, 98]⟩ []) (.slice A7 0 cap7)).step HB8.out).step h9
  clear h9 HB8
  have hS := HX.out
  obtain ⟨hb7, hs7⟩ : Below w.heap.size w w7 ∧ ∀ w', Calls Try.prog 15 #[.agg #[.int .i64 2, .int .i64 0, .string ⟨#[97, 98]⟩, .slice A7 0 cap7], .agg #[.int .i64 2, .int .i64 0, .string ⟨#[97, 98]⟩, .slice none 0 0]] w' fun e w'' => e = .returned (.bool true) ∧ Below w'.heap.size w' w'' := by
    refine ⟨HB7.out, fun w' => ?_⟩
    obtain ⟨A', c', e', h1, h2, h3⟩ := HL.out
    injection e' with e1 e2 e3
    subst e1 e3
    have := same15 1 1 2 0 ⟨#[97, 98]⟩ [] (.slice A7 0 cap7) 2 0 ⟨#[97, 98]⟩ [] (.slice none 0 0) w' ⟨A7, cap7, rfl, h1, h2, fun h => by simp at h⟩ (LAt.nil _ _ _)
    rw [sameB_self] at this
    exact this
  have HS7 := Lib.hid hs7
  have HB7' := Lib.hid hb7
  have HT := Lib.hid (fun w' => text17 ⟨#[97, 98]⟩ w')
  clear hs7 hb7 HL HB7 HX
  go_wp2_with fail
  go_region_held3 (fun w' => w'.cell? ⟨w7.heap.size, 0, none⟩ = some (.int .i64 2) ∧ w'.cell? ⟨w7.heap.size, 1, none⟩ = some (.int .i64 0) ∧ w'.cell? ⟨w7.heap.size, 2, none⟩ = some (.string ⟨#[97, 98]⟩) ∧ w'.cell? ⟨w7.heap.size, 3, none⟩ = some (.slice A7 0 cap7) ∧ Box w7 (.mk 2 0 ⟨#[97, 98]⟩ []) (.slice A7 0 cap7) w')
    (first | exact box4 hS.drew | ((apply box4; repeat (first | exact hS.drew | refine Box.step ?_ (by assumption)))))
    (first | (go_at_call 17; refine (HT.out _).mono ?_; rintro e w' ⟨rfl, hbb⟩) | (go_at_call 15; refine (HS7.out _).mono ?_; rintro e w' ⟨rfl, hbb⟩))
  rename_i hHeld
  have hbw : Below w.heap.size w w' := HB7'.out.trans (hHeld.2.2.2.2.old.mono HB7'.out.size)
  clear hHeld
  go_wp2
  go_ret
  exact ⟨rfl, hbw⟩
end Go.Proofs.Ytdmalkkpcggifaa
