import Derived.Test.YtapfhonapejpjaaRH
namespace Go.Proofs.Ytapfhonapejpjaa
open Go.RowKit

/-- What holds at the head of number's loop: of a number below 0, of another. -/
def NLoopN (s : ByteArray) (res : Nat ⊕ R) (nv bv iv : Value) : Prop :=
  ∃ (i v : Nat) (r : R) (n : Int) (big : Bool), iv = .int .i64 i ∧ nv = .int .i64 n ∧ bv = .bool big ∧ i ≤ s.size ∧ NumAt R0 v r ∧ run i (s.data.toList.drop i) r = res ∧
    (v ≤ big63 → big = false ∧ n = -(v : Int)) ∧ (big63 < v → big = true)
def NLoopP (s : ByteArray) (res : Nat ⊕ R) (nv bv iv : Value) : Prop :=
  ∃ (i v : Nat) (r : R) (n : Int) (big : Bool), iv = .int .i64 i ∧ nv = .int .i64 n ∧ bv = .bool big ∧ i ≤ s.size ∧ NumAt { R0 with pos := true } v r ∧ run i (s.data.toList.drop i) r = res ∧
    (v < big63 → big = false ∧ n = (v : Int)) ∧ (big63 ≤ v → big = true)

/-- One digit more. -/
theorem num_step {r0 r : R} {v : Nat} (h : NumAt r0 v r) {b : UInt8} (hb : isDig b.toNat) (i : Nat) (t : List UInt8) : ∃ r', run i (b :: t) r = run (i + 1) t r' ∧ NumAt r0 (10 * v + (b.toNat - 48)) r' := by
  obtain ⟨r', h1, h2⟩ := digits_run [b.toNat] r0 r v (fun d hd => by simp at hd; rw [hd]; exact hb) h
  have hv : valD v [b.toNat] = 10 * v + (b.toNat - 48) := by simp [valD]
  rw [hv] at h2
  refine ⟨r', ?_, h2⟩
  rw [run_one (by rw [h.st]; omega)]
  simp only [stepAll] at h1
  cases hs : readR r b.toNat with
  | none => rw [hs] at h1; cases h1
  | some x => rw [hs] at h1; simp only [Option.some.injEq] at h1; rw [h1]
theorem num_stop {r0 r : R} {v : Nat} (h : NumAt r0 v r) {b : UInt8} (hb : ¬ isDig b.toNat) (i : Nat) (t : List UInt8) : run i (b :: t) r = .inl i := by
  rw [run_one (by rw [h.st]; omega), show readR r b.toNat = readDigitR r b.toNat by simp [readR, h.st]]
  unfold readDigitR
  unfold isDig at hb
  rw [if_pos (by omega)]

theorem stopV (s : ByteArray) (a : Nat) (w : World) (x e : Int) (hx : x = ((if s.size ≤ a then s.size else a : Nat) : Int)) (he : e = if s.size ≤ a then 3 else 4) :
    Calls Try.prog 55 #[.string s, .int .i64 a] w fun e' w' => e' = .returned (.tuple #[.agg #[.int .i64 0, .int .i64 0, .string ⟨#[]⟩], .int .i64 x, .int .i64 e]) ∧ Below w.heap.size w w' := by
  subst hx; subst he; exact stop55 s a w

theorem below_z (w : World) : Below (w.heap.size + 1) (w.alloc Zc) (w.alloc Zc) := Below.refl _ _
theorem below_new {w w1 : World} (h : Below (w.alloc Zc).heap.size (w.alloc Zc) w1) : Below (w.heap.size + 1) (w.alloc Zc) w1 := h.mono (by simp)

def limp (d : Int) : Int := (9223372036854775807 - d).tdiv 10
theorem limp_eq (d : Int) (h0 : 0 ≤ d) (h9 : d ≤ 9) (v : Nat) : (limp d < (v : Int)) ↔ big63 ≤ 10 * v + d.toNat := by
  unfold limp big63
  rw [Int.tdiv_eq_ediv_of_nonneg (by omega)]; omega
theorem limp_le (d : Int) (h0 : 0 ≤ d) (h9 : d ≤ 9) : 10 * limp d ≤ 9223372036854775807 - d ∧ 0 ≤ limp d := by
  unfold limp
  rw [Int.tdiv_eq_ediv_of_nonneg (by omega)]; omega

/-- What Parse answers of a number, by its digits' value. -/
theorem end_neg {r : R} {v : Nat} (len : Nat) (h : NumAt R0 v r) : pVal (parseEnd len (.inr r)) = if big63 < v then .tuple #[.agg #[.int .i64 0, .int .i64 0, .string ⟨#[]⟩], .int .i64 0, .int .i64 5] else .tuple #[.agg #[.int .i64 1, .int .i64 (-(v : Int)), .string ⟨#[]⟩], .int .i64 len, .int .i64 0] := by
  have hp : r.pos = false := h.pos
  have ht : r.txt = [] := h.txt
  by_cases hv : big63 < v
  · rw [if_pos hv]
    simp [parseEnd, completeR, h.st, bigR, h.large hv, pVal]
  · rw [if_neg hv]
    obtain ⟨h1, h2⟩ := h.small (by omega)
    simp [parseEnd, completeR, h.st, bigR, h1, hp, ht, pVal, vKind, vNum, vText, h2]
theorem end_pos {r : R} {v : Nat} (len : Nat) (h : NumAt { R0 with pos := true } v r) : pVal (parseEnd len (.inr r)) = if big63 ≤ v then .tuple #[.agg #[.int .i64 0, .int .i64 0, .string ⟨#[]⟩], .int .i64 0, .int .i64 5] else .tuple #[.agg #[.int .i64 1, .int .i64 (v : Int), .string ⟨#[]⟩], .int .i64 len, .int .i64 0] := by
  have hp : r.pos = true := h.pos
  have ht : r.txt = [] := h.txt
  by_cases hv : big63 ≤ v
  · rw [if_pos hv]
    by_cases hv2 : big63 < v
    · simp [parseEnd, completeR, h.st, bigR, h.large hv2, pVal]
    · obtain ⟨h1, h2⟩ := h.small (by omega)
      have hm : r.n = minI := by rw [h2, minI_eq]; omega
      simp [parseEnd, completeR, h.st, bigR, h1, hp, ht, hm, pVal]
  · rw [if_neg hv]
    obtain ⟨h1, h2⟩ := h.small (by omega)
    have hm : ¬ r.n = minI := by rw [h2, minI_eq]; omega
    simp [parseEnd, completeR, h.st, bigR, h1, hp, ht, hm, pVal, vKind, vNum, vText]
    rw [h2]; omega

set_option maxRecDepth 100000 in
set_option maxHeartbeats 4000000 in
theorem number43_N (s : ByteArray) (b0 : UInt8) (w : World) (hs : s.size ≤ 5000) (hsz : 1 < s.size)
    (hix0 : ∀ w, (Instr.index 9 (.string s) (.int .i64 0)).run Try.prog w = .ok (.int .u8 (b0.toNat : Int)) w)
    (c0 : ((b0.toNat : Int) == 45) = true) (d0 : UInt8) (hd0 : 49 ≤ d0.toNat) (hd9 : d0.toNat ≤ 57) (u : List UInt8) (hl : s.data.toList.drop 1 = d0 :: u)
    (pv : Value) (r : R) (hr : NumAt R0 0 r) (HPV : Hid (pVal (parseEnd s.size (run 1 (s.data.toList.drop 1) r)) = pv)) :
    Calls Try.prog 43 #[.string s] w fun e w' => e = .returned pv ∧ Below w.heap.size w w' := by
  obtain ⟨h1, hb, ht⟩ := drop_cons hl
  have hixa := str_index s 1 1 rfl h1
  rw [hb] at hixa
  have HDG := Lib.hid (digit42 d0.toNat true (decide_eq_true ⟨by omega, hd9⟩))
  have e1 : ((d0.toNat : Int) == 48) = false := by simp; omega
  have hst : NLoopN s (run 1 (s.data.toList.drop 1) r) (.int .i64 0) (.bool false) (.int .i64 1) :=
    ⟨1, 0, r, 0, false, rfl, rfl, rfl, by omega, hr, rfl, fun _ => ⟨rfl, by simp⟩, fun q => by unfold big63 at q; omega⟩
  generalize run 1 (s.data.toList.drop 1) r = res at hst HPV
  have HST := Lib.hid hst; clear hst hr
  have hlen1 : ((1 : Int) == (s.size : Int)) = false := by simp; omega
  have hbl0 := d0.toNat_lt
  
  clear hl hb ht
  go_enter Try.func43, Try.ntmps43
  go_wp2_with (go_at_call 42; go_must (refine (HDG.out _).mono ?_); rintro e w' ⟨rfl, rfl⟩)
  go_loop [6, 7, 8] (fun n bg i => NLoopN s res n bg i) (fun _ _ i => s.size - (intOf i).toNat)
  case atStart => exact HST.out
  case round =>
    obtain ⟨i, v, r, n, big, rfl, rfl, rfl, hi, hnum, hrun, hsm, hlg⟩ := hrel
    by_cases hp : i < s.size
    · cases hl : s.data.toList.drop i with
      | nil => exact absurd (drop_nil_le hl) (by omega)
      | cons b t =>
      obtain ⟨_, hb, ht⟩ := drop_cons hl
      have hix := str_index s i i rfl hp
      rw [hb] at hix
      have hbl := b.toNat_lt
      rw [hl] at hrun
      have t1 : (i : Int) < (s.size : Int) := by omega
      have HT := Lib.hid ht
      clear hl hb ht HDG hixa hix0
      by_cases hdig : isDig b.toNat
      · have HD := Lib.hid (digit42 b.toNat true (decide_eq_true hdig))
        obtain ⟨r', g1, g2⟩ := num_step hnum hdig i t
        rw [g1, ← HT.out] at hrun
        have HR := Lib.hid hrun
        unfold isDig at hdig
        obtain ⟨q1, q2⟩ := hdig
        clear hrun g1 hnum
        cases big with
        | true =>
          have hv : ¬ v ≤ big63 := fun q => by have := (hsm q).1; cases this
          have HNX : Hid (NLoopN s res (.int .i64 n) (.bool true) (.int .i64 ((i : Int) + 1))) := ⟨i + 1, 10 * v + (b.toNat - 48), r', n, true, by go_num, rfl, rfl, by omega, g2, HR.out, fun q => by exfalso; apply hv; omega, fun _ => rfl⟩
          clear hv hsm hlg g2 HR
          go_wp2_with (go_at_call 42; go_must (refine (HD.out _).mono ?_); rintro e w' ⟨rfl, rfl⟩)
          go_round
          case rel => first
            | exact HNX.out
            | ((repeat apply Exists.intro); exact ⟨HNX.out, rfl⟩)
          case measure => simp [intOf]; omega
        | false =>
          have hv : v ≤ big63 := by
            by_cases q : v ≤ big63
            · exact q
            · have := hlg (by omega); cases this
          obtain ⟨_, hn⟩ := hsm hv
          subst hn
          clear hsm hlg
          obtain ⟨d, hd⟩ : ∃ d : Int, d = (b.toNat : Int) - 48 := ⟨_, rfl⟩
          have hdn : d.toNat = b.toNat - 48 := by omega
          have hll := lim_le d (by omega) (by omega)
          have hle := lim_eq d (by omega) (by omega) v
          rw [hdn] at hle
          by_cases hlt : -(v : Int) < lim d
          · have hv' := hle.mp hlt
            have HNX : Hid (NLoopN s res (.int .i64 (-(v : Int))) (.bool true) (.int .i64 ((i : Int) + 1))) := ⟨i + 1, 10 * v + (b.toNat - 48), r', (-(v : Int)), true, by go_num, rfl, rfl, by omega, g2, HR.out, fun q => by exfalso; omega, fun _ => rfl⟩
            subst hd
            unfold lim at hlt hll
            unfold big63 at hv
            clear hle hdn g2 HR hv'
            go_wp2_with (go_at_call 42; go_must (refine (HD.out _).mono ?_); rintro e w' ⟨rfl, rfl⟩)
            go_round
            case rel => first
              | exact HNX.out
              | ((repeat apply Exists.intro); exact ⟨HNX.out, rfl⟩)
            case measure => simp [intOf]; omega
          · have hv' := fun q => hlt (hle.mpr q)
            have HNX : Hid (NLoopN s res (.int .i64 (10 * (-(v : Int)) - ((b.toNat : Int) - 48))) (.bool false) (.int .i64 ((i : Int) + 1))) := ⟨i + 1, 10 * v + (b.toNat - 48), r', _, false, by go_num, rfl, rfl, by omega, g2, HR.out, fun q => ⟨rfl, by omega⟩, fun q => by exfalso; omega⟩
            subst hd
            unfold lim at hlt hll
            unfold big63 at hv
            clear hle hdn g2 HR hv'
            have e5 := decide_eq_false hlt
            go_wp2_with (go_at_call 42; go_must (refine (HD.out _).mono ?_); rintro e w' ⟨rfl, rfl⟩)
            refine ⟨HNX.out, ?_⟩
            simp [intOf]; omega
      · have HD := Lib.hid (digit42 b.toNat false (decide_eq_false hdig))
        rw [num_stop hnum hdig] at hrun
        have hv : Value.tuple #[.agg #[.int .i64 0, .int .i64 0, .string ⟨#[]⟩], .int .i64 (i : Int), .int .i64 4] = pv := by rw [← HPV.out, ← hrun]; rfl
        have HV := Lib.hid hv
        clear hv hrun hnum hsm hlg hdig
        go_wp2_with (go_at_call 42; go_must (refine (HD.out _).mono ?_); rintro e w' ⟨rfl, rfl⟩)
        refine bodyPost_ret (v := .tuple #[.agg #[.int .i64 0, .int .i64 0, .string ⟨#[]⟩], .int .i64 (i : Int), .int .i64 4]) (by simp [results, Try.results43, go_sem]) rfl ⟨congrArg Ending.returned HV.out, ?_⟩
        exact (Below.refl _ _).alloc (Nat.le_refl _) _
    · rw [drop_nil hp, run_nil] at hrun
      have hpv := HPV.out
      rw [← hrun, end_neg s.size hnum] at hpv
      by_cases hb : big63 < v
      · rw [if_pos hb] at hpv
        have := hlg hb
        subst this
        have HV := Lib.hid hpv
        clear hpv hrun hsm hlg hb hnum HDG hixa hix0
        go_wp2
        refine bodyPost_ret (v := .tuple #[.agg #[.int .i64 0, .int .i64 0, .string ⟨#[]⟩], .int .i64 0, .int .i64 5]) (by simp [results, Try.results43, go_sem]) rfl ⟨congrArg Ending.returned HV.out, ?_⟩
        exact (Below.refl _ _).alloc (Nat.le_refl _) _
      · rw [if_neg hb] at hpv
        obtain ⟨z1, z2⟩ := hsm (by omega)
        subst z1
        rw [← z2] at hpv
        have HV := Lib.hid hpv
        clear hpv hrun hsm hlg hb hnum HDG hixa hix0 z2
        go_wp2
        refine bodyPost_ret (v := .tuple #[.agg #[.int .i64 1, .int .i64 n, .string ⟨#[]⟩], .int .i64 s.size, .int .i64 0]) (by simp [results, Try.results43, go_sem]) rfl ⟨congrArg Ending.returned HV.out, ?_⟩
        exact (Below.refl _ _).alloc (Nat.le_refl _) _

set_option maxRecDepth 100000 in
set_option maxHeartbeats 4000000 in
theorem number43_P (s : ByteArray) (b0 : UInt8) (w : World) (hs : s.size ≤ 5000) (hsz : 0 < s.size)
    (hix0 : ∀ w, (Instr.index 9 (.string s) (.int .i64 0)).run Try.prog w = .ok (.int .u8 (b0.toNat : Int)) w)
    (_c0 : ((b0.toNat : Int) == 45) = false) (d0 : UInt8) (hd0 : 49 ≤ d0.toNat) (hd9 : d0.toNat ≤ 57) (u : List UInt8) (hl : s.data.toList.drop 0 = d0 :: u)
    (pv : Value) (r : R) (hr : NumAt { R0 with pos := true } 0 r) (HPV : Hid (pVal (parseEnd s.size (run 0 (s.data.toList.drop 0) r)) = pv)) :
    Calls Try.prog 43 #[.string s] w fun e w' => e = .returned pv ∧ Below w.heap.size w w' := by
  obtain ⟨h1, hb, ht⟩ := drop_cons hl
  have hixa := str_index s 0 0 rfl h1
  rw [hb] at hixa
  have HDG := Lib.hid (digit42 d0.toNat true (decide_eq_true ⟨by omega, hd9⟩))
  have e1 : ((d0.toNat : Int) == 48) = false := by simp; omega
  have hst : NLoopP s (run 0 (s.data.toList.drop 0) r) (.int .i64 0) (.bool false) (.int .i64 0) :=
    ⟨0, 0, r, 0, false, rfl, rfl, rfl, by omega, hr, rfl, fun _ => ⟨rfl, by simp⟩, fun q => by unfold big63 at q; omega⟩
  generalize run 0 (s.data.toList.drop 0) r = res at hst HPV
  have HST := Lib.hid hst; clear hst hr
  have hlen1 : ((0 : Int) == (s.size : Int)) = false := by simp; omega
  have hbl0 := d0.toNat_lt
  have hb0d : b0.toNat = d0.toNat := by have q0 := str_index s 0 0 rfl h1 w; rw [hb] at q0; have q1 := hix0 w; rw [q1] at q0; simp at q0; omega
  clear hl hb ht
  go_enter Try.func43, Try.ntmps43
  go_wp2_with (go_at_call 42; go_must (refine (HDG.out _).mono ?_); rintro e w' ⟨rfl, rfl⟩)
  go_loop [6, 7, 8] (fun n bg i => NLoopP s res n bg i) (fun _ _ i => s.size - (intOf i).toNat)
  case atStart => exact HST.out
  case round =>
    obtain ⟨i, v, r, n, big, rfl, rfl, rfl, hi, hnum, hrun, hsm, hlg⟩ := hrel
    by_cases hp : i < s.size
    · cases hl : s.data.toList.drop i with
      | nil => exact absurd (drop_nil_le hl) (by omega)
      | cons b t =>
      obtain ⟨_, hb, ht⟩ := drop_cons hl
      have hix := str_index s i i rfl hp
      rw [hb] at hix
      have hbl := b.toNat_lt
      rw [hl] at hrun
      have t1 : (i : Int) < (s.size : Int) := by omega
      have HT := Lib.hid ht
      clear hl hb ht HDG hixa hix0
      by_cases hdig : isDig b.toNat
      · have HD := Lib.hid (digit42 b.toNat true (decide_eq_true hdig))
        obtain ⟨r', g1, g2⟩ := num_step hnum hdig i t
        rw [g1, ← HT.out] at hrun
        have HR := Lib.hid hrun
        unfold isDig at hdig
        obtain ⟨q1, q2⟩ := hdig
        clear hrun g1 hnum
        cases big with
        | true =>
          have hv : ¬ v < big63 := fun q => by have := (hsm q).1; cases this
          have HNX : Hid (NLoopP s res (.int .i64 n) (.bool true) (.int .i64 ((i : Int) + 1))) := ⟨i + 1, 10 * v + (b.toNat - 48), r', n, true, by go_num, rfl, rfl, by omega, g2, HR.out, fun q => by exfalso; apply hv; omega, fun _ => rfl⟩
          clear hv hsm hlg g2 HR
          go_wp2_with (go_at_call 42; go_must (refine (HD.out _).mono ?_); rintro e w' ⟨rfl, rfl⟩)
          go_round
          case rel => first
            | exact HNX.out
            | ((repeat apply Exists.intro); exact ⟨HNX.out, rfl⟩)
          case measure => simp [intOf]; omega
        | false =>
          have hv : v < big63 := by
            by_cases q : v < big63
            · exact q
            · have := hlg (by omega); cases this
          obtain ⟨_, hn⟩ := hsm hv
          subst hn
          clear hsm hlg
          obtain ⟨d, hd⟩ : ∃ d : Int, d = (b.toNat : Int) - 48 := ⟨_, rfl⟩
          have hdn : d.toNat = b.toNat - 48 := by omega
          have hll := limp_le d (by omega) (by omega)
          have hle := limp_eq d (by omega) (by omega) v
          rw [hdn] at hle
          by_cases hlt : limp d < (v : Int)
          · have hv' := hle.mp hlt
            have HNX : Hid (NLoopP s res (.int .i64 (v : Int)) (.bool true) (.int .i64 ((i : Int) + 1))) := ⟨i + 1, 10 * v + (b.toNat - 48), r', (v : Int), true, by go_num, rfl, rfl, by omega, g2, HR.out, fun q => by exfalso; omega, fun _ => rfl⟩
            subst hd
            unfold limp at hlt hll
            unfold big63 at hv
            clear hle hdn g2 HR hv'
            go_wp2_with (go_at_call 42; go_must (refine (HD.out _).mono ?_); rintro e w' ⟨rfl, rfl⟩)
            go_round
            case rel => first
              | exact HNX.out
              | ((repeat apply Exists.intro); exact ⟨HNX.out, rfl⟩)
            case measure => simp [intOf]; omega
          · have hv' := fun q => hlt (hle.mpr q)
            have HNX : Hid (NLoopP s res (.int .i64 (10 * (v : Int) + ((b.toNat : Int) - 48))) (.bool false) (.int .i64 ((i : Int) + 1))) := ⟨i + 1, 10 * v + (b.toNat - 48), r', _, false, by go_num, rfl, rfl, by omega, g2, HR.out, fun q => ⟨rfl, by omega⟩, fun q => by exfalso; omega⟩
            subst hd
            unfold limp at hlt hll
            unfold big63 at hv
            clear hle hdn g2 HR hv'
            have e5 := decide_eq_false hlt
            go_wp2_with (go_at_call 42; go_must (refine (HD.out _).mono ?_); rintro e w' ⟨rfl, rfl⟩)
            refine ⟨HNX.out, ?_⟩
            simp [intOf]; omega
      · have HD := Lib.hid (digit42 b.toNat false (decide_eq_false hdig))
        rw [num_stop hnum hdig] at hrun
        have hv : Value.tuple #[.agg #[.int .i64 0, .int .i64 0, .string ⟨#[]⟩], .int .i64 (i : Int), .int .i64 4] = pv := by rw [← HPV.out, ← hrun]; rfl
        have HV := Lib.hid hv
        clear hv hrun hnum hsm hlg hdig
        go_wp2_with (go_at_call 42; go_must (refine (HD.out _).mono ?_); rintro e w' ⟨rfl, rfl⟩)
        refine bodyPost_ret (v := .tuple #[.agg #[.int .i64 0, .int .i64 0, .string ⟨#[]⟩], .int .i64 (i : Int), .int .i64 4]) (by simp [results, Try.results43, go_sem]) rfl ⟨congrArg Ending.returned HV.out, ?_⟩
        exact (Below.refl _ _).alloc (Nat.le_refl _) _
    · rw [drop_nil hp, run_nil] at hrun
      have hpv := HPV.out
      rw [← hrun, end_pos s.size hnum] at hpv
      by_cases hb : big63 ≤ v
      · rw [if_pos hb] at hpv
        have := hlg hb
        subst this
        have HV := Lib.hid hpv
        clear hpv hrun hsm hlg hb hnum HDG hixa hix0
        go_wp2
        refine bodyPost_ret (v := .tuple #[.agg #[.int .i64 0, .int .i64 0, .string ⟨#[]⟩], .int .i64 0, .int .i64 5]) (by simp [results, Try.results43, go_sem]) rfl ⟨congrArg Ending.returned HV.out, ?_⟩
        exact (Below.refl _ _).alloc (Nat.le_refl _) _
      · rw [if_neg hb] at hpv
        obtain ⟨z1, z2⟩ := hsm (by omega)
        subst z1
        rw [← z2] at hpv
        have HV := Lib.hid hpv
        clear hpv hrun hsm hlg hb hnum HDG hixa hix0 z2
        go_wp2
        refine bodyPost_ret (v := .tuple #[.agg #[.int .i64 1, .int .i64 n, .string ⟨#[]⟩], .int .i64 s.size, .int .i64 0]) (by simp [results, Try.results43, go_sem]) rfl ⟨congrArg Ending.returned HV.out, ?_⟩
        exact (Below.refl _ _).alloc (Nat.le_refl _) _
end Go.Proofs.Ytapfhonapejpjaa
