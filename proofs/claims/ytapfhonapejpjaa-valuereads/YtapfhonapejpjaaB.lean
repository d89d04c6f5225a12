import Derived.Test.YtapfhonapejpjaaA
import Derived.Test.YtapfhonapejpjaaP
import Derived.Recover
import Derived.Deep.DeepMust
namespace Go.Proofs.Ytapfhonapejpjaa
open Go.RowKit

theorem Try.info5 : (Try.prog.info? 5).map (fun i => (i.zero, i.size, i.bytes)) = some (some (.int .u8 0), 1, 1) := by kernel_rfl
theorem info5 : ∃ i, Try.prog.info? 5 = some i ∧ i.zero = some (.int .u8 0) ∧ i.size = 1 ∧ i.bytes = 1 := by
  have h := Try.info5
  cases hi : Try.prog.info? 5 with
  | none => rw [hi] at h; simp at h
  | some i => rw [hi] at h; simp at h; exact ⟨i, rfl, h.1, h.2.1, h.2.2⟩

set_option maxHeartbeats 400000 in
theorem isC47 (c : Int) (w : World) :
    Calls Try.prog 47 #[.int .i32 c] w fun e w' => e = .returned (.bool (isCtl c)) ∧ w = w' := by
  by_cases h : c < 32
  · have hr : Hid (isCtl c = true) := by simp [Hid, isCtl, h]
    go_enter Try.func47, Try.ntmps47
    go_wp2
    go_ret
    exact ⟨by rw [hr.out]; rfl, rfl⟩
  · have hr : Hid (isCtl c = (c == 127)) := by simp [Hid, isCtl, h]
    go_enter Try.func47, Try.ntmps47
    go_wp2
    go_ret
    exact ⟨by rw [hr.out]; rfl, rfl⟩

set_option maxHeartbeats 400000 in
theorem addDigit57 (b : Nat) (r : R) (d : Int) (w : World) (hr : Rd b r w) (hk : Ok r) (hd0 : 0 ≤ d) (hd9 : d ≤ 9) :
    Calls Try.prog 57 #[.pointer (some ⟨b, 0, none⟩), .int .i64 d] w fun e w' => e = .returned (.tuple #[]) ∧ Rd b (addDigitR r d) w' ∧ Fr b w w' := by
  obtain ⟨tv, -, -, -, h2, h3, -, -⟩ := hr.cells
  have f2 := hr.frozen 2
  have f3 := hr.frozen 3
  obtain ⟨k1, k2, -, -⟩ := hk
  cases hov : r.ov with
  | true =>
    have hA : Hid (addDigitR r d = { r with ov := true }) := by simp [Hid, addDigitR, hov]
    rw [hov] at h3
    clear hov
    go_enter Try.func57, Try.ntmps57
    go_wp2
    first | go_end0 | refine bodyPost_ret (results_none rfl _ _ _) rfl ?_
    exact ⟨rfl, by rw [hA.out]; exact hr.set3 true, (Fr.refl _ _).set 3 _⟩
  | false =>
    rw [hov] at h3
    have hl := lim_le d hd0 hd9
    by_cases hlt : r.n < lim d
    · have hA : Hid (addDigitR r d = { r with ov := true }) := by simp [Hid, addDigitR, hov, hlt]
      clear hov
      unfold lim at hlt hl
      go_enter Try.func57, Try.ntmps57
      go_wp2
      first | go_end0 | refine bodyPost_ret (results_none rfl _ _ _) rfl ?_
      exact ⟨rfl, by rw [hA.out]; exact hr.set3 true, (Fr.refl _ _).set 3 _⟩
    · have hA : Hid (addDigitR r d = { r with n := r.n * 10 - d }) := by simp [Hid, addDigitR, hov, hlt]
      clear hov
      unfold lim at hlt hl
      go_enter Try.func57, Try.ntmps57
      go_wp2
      first | go_end0 | refine bodyPost_ret (results_none rfl _ _ _) rfl ?_
      exact ⟨rfl, by rw [hA.out]; exact hr.set2 _, (Fr.refl _ _).set 2 _⟩

theorem addDigitR_ok (r : R) (d : Int) (hk : Ok r) (hd0 : 0 ≤ d) (hd9 : d ≤ 9) : Ok (addDigitR r d) := by
  obtain ⟨k1, k2, k3, k4⟩ := hk
  have hl := lim_le d hd0 hd9
  unfold addDigitR
  split
  · exact ⟨k1, k2, k3, k4⟩
  · rename_i h
    simp only [Bool.or_eq_true, decide_eq_true_eq, not_or] at h
    exact ⟨by simp only; omega, by simp only; omega, k3, k4⟩

theorem addPointR_ok (r : R) (c : Int) (hk : Ok r) : Ok (addPointR r c) := by
  obtain ⟨k1, k2, k3, k4⟩ := hk
  refine ⟨k1, k2, k3, ?_⟩
  have := encode_len c
  unfold addPointR
  simp only
  split
  · rw [List.length_append]; omega
  · exact k4

theorem ownsRow_slice {b : Nat} {w : World} {tv : Value} {n : Nat} {xs : List Value} (h : w.ownsRow b 5 1 tv n xs) : ∃ a cap, tv = .slice a n cap := by
  rcases h.2 with ⟨e1, e2⟩ | ⟨g, cap, cur, e, _⟩
  · exact ⟨_, _, by rw [e1, e2]⟩
  · exact ⟨_, _, e⟩

theorem strCells_eq (s : ByteArray) : Lib.strCells s = bytesV s.data.toList := rfl

set_option maxHeartbeats 400000 in
theorem addPoint58 (b : Nat) (r : R) (c : Int) (w : World) (hr : Rd b r w) (hk : Ok r) :
    Calls Try.prog 58 #[.pointer (some ⟨b, 0, none⟩), .int .i32 c] w fun e w' => e = .returned (.tuple #[]) ∧ Rd b (addPointR r c) w' ∧ Fr b w w' := by
  obtain ⟨i0, hi, hz0, hz1, hz2⟩ := info5
  obtain ⟨k1, k2, k3, k4⟩ := hk
  have hen : (Utf8.encode c).size ≤ 4 := by have := encode_len c; simpa using this
  have hr0 := hr.set0 4
  have f0 := hr.frozen 0
  have f4 := hr.frozen 4
  obtain ⟨tv, hb, ho⟩ := hr
  obtain ⟨tv', hb0, ho0⟩ := hr0
  obtain ⟨ta, tc, rfl⟩ := ownsRow_slice ho
  have h0 : w.cell? ⟨b, 0, none⟩ = some (.int .i64 r.st) := by rw [cell_of_row w b _ _ 61 (0, 0) hb]; rfl
  have h4 : w.cell? ⟨b, 4, none⟩ = some (.slice ta r.txt.length tc) := by rw [cell_of_row w b _ _ 61 (0, 0) hb]; rfl
  have hlt : b < w.heap.size := (Array.getElem?_eq_some_iff.1 hb).1
  have hbo := heap_setCell_same w b 0 _ 61 (.int .i64 4) hb
  have hoo := ownsRow_set ho 0 (.int .i64 4)
  have HB := Lib.hid hb; clear hb
  have HBO := Lib.hid hbo; clear hbo
  clear hb0 ho0
  have HO := Lib.hid ho; clear ho
  have HOO := Lib.hid hoo; clear hoo
  by_cases hlen : r.txt.length ≤ 40
  · have hA : Hid (addPointR r c = { r with st := 4, txt := r.txt ++ (Utf8.encode c).data.toList }) := by simp [Hid, addPointR, hlen]
    go_enter Try.func58, Try.ntmps58
    go_wp2_with (at_builtin; go_must (refine Lib.wpList_append_own_string _ rfl _ _ 46 9 rfl (b+1) 5 i0 Try.underlying46 Try.underlying9 hi hz0 hz1 hz2 _ _ _ rfl HOO.out (Utf8.encode c) rfl ?c3 ?c4 ?c5 ?_))
    case c3 => unfold maxLen; omega
    case c4 => omega
    case c5 => simp [World.setCell]; omega
    intro v' w' ho' hg' _
    have hne : some b ≠ (Value.slice ta r.txt.length tc).ownBlock := fun e => by have := (HO.out.lt b e.symm).1; omega
    have hb' : w'.heap[b]? = some (.cells #[.int .i64 4, .bool r.pos, .int .i64 r.n, .bool r.ov, .slice ta r.txt.length tc, .int .i32 r.hi] 61 (0, 0)) :=
      (hg'.block b (by simp [World.setCell]; omega) hne).trans HBO.out
    have h4' : w'.cell? ⟨b, 4, none⟩ = some (.slice ta r.txt.length tc) := by rw [cell_of_row w' b _ _ 61 (0, 0) hb']; rfl
    have f4' : w'.frozen? ⟨b, 4, none⟩ = false := by simp [World.frozen?, hb']
    obtain ⟨a', cap', hv⟩ := ownsRow_slice ho'
    rw [hv] at ho'
    rw [hv]
    have hfr : Fr b w w' := ⟨((Below.refl b w).setCell (Nat.le_refl b) _).grown hg' (by simp [World.setCell]; omega) (fun k hk => by have := (HO.out.lt k hk).1; omega),
      ((Lib.OthersKept.refl 5 (some b) w).setCell ⟨b, 0, none⟩ rfl (.int .i64 4)).grown hg' (fun g hg => by
        rcases HOO.out.2 with ⟨e1, _⟩ | ⟨g', cap, cur, e, _, hgg, _⟩
        · rw [e1] at hg; simp [Value.ownBlock] at hg
        · rw [e] at hg; simp [Value.ownBlock] at hg; subst hg; exact ⟨_, _, hgg⟩)⟩
    have HB' := Lib.hid hb'; clear hb'
    have HO' := Lib.hid ho'; clear ho'
    have HFR := Lib.hid hfr
    clear hfr hv hg' hne
    go_wp2
    go_end0
    refine ⟨rfl, ?_, HFR.out.set 4 _⟩
    rw [hA.out]
    refine ⟨_, heap_setCell_same w' b 4 _ 61 _ HB'.out, ?_⟩
    have ho2 := ownsRow_set HO'.out 4 (Value.slice a' (r.txt.length + (Utf8.encode c).size) cap')
    rw [strCells_eq] at ho2
    have e1 : (r.txt ++ (Utf8.encode c).data.toList).length = r.txt.length + (Utf8.encode c).size := by simp
    have e2 : bytesV (r.txt ++ (Utf8.encode c).data.toList) = bytesV r.txt ++ bytesV (Utf8.encode c).data.toList := by simp [bytesV]
    simp only [e1, e2]
    exact ho2
  · have hA : Hid (addPointR r c = { r with st := 4 }) := by simp [Hid, addPointR, hlen]
    go_enter Try.func58, Try.ntmps58
    go_wp2
    first | go_end0 | refine bodyPost_ret (results_none rfl _ _ _) rfl ?_
    refine ⟨rfl, ?_, (Fr.refl _ _).set 0 _⟩
    rw [hA.out]
    exact ⟨_, HBO.out, HOO.out⟩
end Go.Proofs.Ytapfhonapejpjaa
