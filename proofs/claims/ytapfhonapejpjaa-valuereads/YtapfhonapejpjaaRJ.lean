import Derived.Test.YtapfhonapejpjaaRI
namespace Go.Proofs.Ytapfhonapejpjaa
open Go.RowKit

theorem size_cons {s : ByteArray} {b : UInt8} {t : List UInt8} (h : s.data.toList = b :: t) : s.size = t.length + 1 := by
  have hl : s.data.toList.length = s.size := rfl
  rw [h, List.length_cons] at hl; omega
theorem parse_run' (s : ByteArray) : parseR s.data.toList = parseEnd s.size (run 0 s.data.toList R0) := by
  have hl : s.data.toList.length = s.size := rfl
  rw [parse_run, hl]

set_option maxRecDepth 100000 in
set_option maxHeartbeats 4000000 in
theorem number43 (s : ByteArray) (b : UInt8) (t : List UInt8) (w : World) (hs : s.size ≤ 5000) (hl0 : s.data.toList = b :: t) (hb : b.toNat = 45 ∨ isDig b.toNat) :
    Calls Try.prog 43 #[.string s] w fun e w' => e = .returned (pVal (parseR s.data.toList)) ∧ Below w.heap.size w w' := by
  have hsz := size_cons hl0
  have hix0 := str_index s 0 0 rfl (by omega)
  have hba : byteAt s.data.toList 0 = b.toNat := (drop_cons (a := 0) (by rw [List.drop_zero]; exact hl0)).2.1
  rw [hba] at hix0
  have h1 : s.data.toList.drop 1 = t := by rw [hl0]; rfl
  rw [parse_run']
  obtain ⟨pv, hpv⟩ : ∃ pv, pVal (parseEnd s.size (run 0 s.data.toList R0)) = pv := ⟨_, rfl⟩
  rw [hpv]
  have hl0' := hl0
  rw [hl0, run_one (by simp [R0])] at hpv
  clear hl0 hba
  by_cases q : b.toNat = 45
  · have c0 : ((b.toNat : Int) == 45) = true := by simp; omega
    rw [show readR R0 b.toNat = some { R0 with st := 1 } by simp [readR, R0, readFirstR, q]] at hpv
    simp only at hpv
    clear q hb
    cases t with
    | nil =>
      rw [run_nil] at hpv
      simp only [List.length_nil] at hsz
      have HS := Lib.hid (fun w => stopV s 1 w 1 3 (by rw [if_pos (by omega)]; omega) (by rw [if_pos (by omega)]))
      have HV : Hid (Value.tuple #[.agg #[.int .i64 0, .int .i64 0, .string ⟨#[]⟩], .int .i64 1, .int .i64 3] = pv) := by
        show _ = _
        rw [← hpv]; simp [parseEnd, completeR, pVal, hsz]
      have e1 : ((1 : Int) == (s.size : Int)) = true := by simp; omega
      clear hpv h1
      go_enter Try.func43, Try.ntmps43
      go_wp2_with fail
      refine (HS.out _).mono ?_
      rintro e w2 ⟨rfl, hb2⟩
      have hbe2 := below_new hb2
      obtain ⟨p0, p1, p2, f0, f1, f2⟩ := res1 hbe2
      go_wp2
      refine bodyPost_ret (v := .tuple #[.agg #[.int .i64 0, .int .i64 0, .string ⟨#[]⟩], .int .i64 1, .int .i64 3]) (by simp [results, Try.results43, go_sem, p0, p1, p2]) rfl ⟨congrArg Ending.returned HV.out, ?_⟩
      exact below_res hbe2 _ _ _
    | cons d u =>
      have hdl := d.toNat_lt
      simp only [List.length_cons] at hsz
      have hix1 := str_index s 1 1 rfl (by omega)
      have hba := (drop_cons (a := 1) h1).2.1
      rw [hba] at hix1
      clear hba
      have e1 : ((1 : Int) == (s.size : Int)) = false := by simp; omega
      by_cases hd : 49 ≤ d.toNat ∧ d.toNat ≤ 57
      · rw [show run (0 + 1) (d :: u) { R0 with st := 1 } = run 1 (s.data.toList.drop 1) { R0 with st := 3 } by rw [h1, run_one (by simp), first_digit1 _ hd.1 hd.2, ← run_one (by simp)]] at hpv
        exact number43_N s b w hs (by omega) hix0 c0 d hd.1 hd.2 u h1 pv _ (num0 R0 rfl rfl) hpv
      · rw [run_one (by simp)] at hpv
        rw [show readR { R0 with st := 1 } d.toNat = none by
          simp only [readR, R0, readDigitR]
          rw [if_neg (by omega), if_pos trivial]
          first
            | (rw [if_pos (by omega)]; done)
            | (split <;> first | rfl | (rw [if_pos (by omega)]))] at hpv
        have HS := Lib.hid (fun w => stopV s 1 w 1 4 (by rw [if_neg (by omega)]; rfl) (by rw [if_neg (by omega)]))
        have HV : Hid (Value.tuple #[.agg #[.int .i64 0, .int .i64 0, .string ⟨#[]⟩], .int .i64 1, .int .i64 4] = pv) := hpv
        clear hpv h1
        by_cases hdig : isDig d.toNat
        · have HD := Lib.hid (digit42 d.toNat true (decide_eq_true hdig))
          unfold isDig at hdig
          have e2 : ((d.toNat : Int) == 48) = true := by simp; omega
          clear hdig hd
          go_enter Try.func43, Try.ntmps43
          go_wp2_with (go_at_call 42; go_must (refine (HD.out _).mono ?_); rintro e w' ⟨rfl, rfl⟩)
          refine (HS.out _).mono ?_
          rintro e w2 ⟨rfl, hb2⟩
          have hbe2 := below_new hb2
          obtain ⟨p0, p1, p2, f0, f1, f2⟩ := res1 hbe2
          go_wp2
          refine bodyPost_ret (v := .tuple #[.agg #[.int .i64 0, .int .i64 0, .string ⟨#[]⟩], .int .i64 1, .int .i64 4]) (by simp [results, Try.results43, go_sem, p0, p1, p2]) rfl ⟨congrArg Ending.returned HV.out, ?_⟩
          exact below_res hbe2 _ _ _
        · have HD := Lib.hid (digit42 d.toNat false (decide_eq_false hdig))
          clear hdig hd
          go_enter Try.func43, Try.ntmps43
          go_wp2_with (go_at_call 42; go_must (refine (HD.out _).mono ?_); rintro e w' ⟨rfl, rfl⟩)
          refine (HS.out _).mono ?_
          rintro e w2 ⟨rfl, hb2⟩
          have hbe2 := below_new hb2
          obtain ⟨p0, p1, p2, f0, f1, f2⟩ := res1 hbe2
          go_wp2
          refine bodyPost_ret (v := .tuple #[.agg #[.int .i64 0, .int .i64 0, .string ⟨#[]⟩], .int .i64 1, .int .i64 4]) (by simp [results, Try.results43, go_sem, p0, p1, p2]) rfl ⟨congrArg Ending.returned HV.out, ?_⟩
          exact below_res hbe2 _ _ _
  · have hb := hb.resolve_left q
    have HD := Lib.hid (digit42 b.toNat true (decide_eq_true hb))
    have c0 : ((b.toNat : Int) == 45) = false := by simp; omega
    have e1 : ((0 : Int) == (s.size : Int)) = false := by simp; omega
    unfold isDig at hb
    by_cases q0 : b.toNat = 48
    · have e2 : ((b.toNat : Int) == 48) = true := by simp; omega
      rw [show readR R0 b.toNat = some { R0 with st := 2 } by simp [readR, R0, readFirstR, q0]] at hpv
      simp only at hpv
      clear q q0 hb
      cases t with
      | nil =>
        simp only [List.length_nil] at hsz
        rw [run_nil] at hpv
        have HV : Hid (Value.tuple #[.agg #[.int .i64 1, .int .i64 0, .string ⟨#[]⟩], .int .i64 1, .int .i64 0] = pv) := by
          show _ = _
          rw [← hpv]; simp [parseEnd, completeR, bigR, vKind, vNum, vText, pVal, R0, hsz]
        have t1 : ¬ (1 : Int) < (s.size : Int) := by omega
        clear hpv h1
        go_enter Try.func43, Try.ntmps43
        go_wp2_with (go_at_call 42; go_must (refine (HD.out _).mono ?_); rintro e w' ⟨rfl, rfl⟩)
        refine bodyPost_ret (v := .tuple #[.agg #[.int .i64 1, .int .i64 0, .string ⟨#[]⟩], .int .i64 1, .int .i64 0]) (by simp [results, Try.results43, go_sem]) rfl ⟨congrArg Ending.returned HV.out, ?_⟩
        exact (Below.refl _ _).alloc (Nat.le_refl _) _
      | cons d u =>
        simp only [List.length_cons] at hsz
        rw [run_one (by simp)] at hpv
        rw [show readR { R0 with st := 2 } d.toNat = none by simp [readR]] at hpv
        have HV : Hid (Value.tuple #[.agg #[.int .i64 0, .int .i64 0, .string ⟨#[]⟩], .int .i64 1, .int .i64 4] = pv) := hpv
        have t1 : (1 : Int) < (s.size : Int) := by omega
        clear hpv h1
        go_enter Try.func43, Try.ntmps43
        go_wp2_with (go_at_call 42; go_must (refine (HD.out _).mono ?_); rintro e w' ⟨rfl, rfl⟩)
        refine bodyPost_ret (v := .tuple #[.agg #[.int .i64 0, .int .i64 0, .string ⟨#[]⟩], .int .i64 1, .int .i64 4]) (by simp [results, Try.results43, go_sem]) rfl ⟨congrArg Ending.returned HV.out, ?_⟩
        exact (Below.refl _ _).alloc (Nat.le_refl _) _
    · have h0 : s.data.toList.drop 0 = b :: t := by
        rw [List.drop_zero]
        exact hl0'
      have hrr : run 0 (s.data.toList.drop 0) { R0 with st := 3, pos := true } = run 0 (b :: t) R0 := by
        rw [h0, run_one (by simp), run_one (by simp [R0]), first_digit0 _ (by omega) hb.2]
      rw [← run_one (by simp [R0]), ← hrr] at hpv
      exact number43_P s b w hs (by omega) hix0 c0 b (by omega) hb.2 t h0 pv _ (num0 { R0 with pos := true } rfl rfl) hpv

set_option maxRecDepth 100000 in
set_option maxHeartbeats 4000000 in
theorem refParse21 (s : ByteArray) (w : World) (hs : s.size ≤ 5000) :
    Calls Try.prog 21 #[.string s] w fun e w' => e = .returned (pVal (parseR s.data.toList)) ∧ Below w.heap.size w w' := by
  cases hl : s.data.toList with
  | nil =>
    have hsz : s = ⟨#[]⟩ := bytes_of_list (s := s) (l := []) hl
    subst hsz
    have hv : Value.tuple #[.agg #[.int .i64 0, .int .i64 0, .string ⟨#[]⟩], .int .i64 0, .int .i64 3] = pVal (parseR []) := by
      rw [parse_run, run_nil]; simp [parseEnd, completeR, pVal, R0]
    rw [← hv]
    clear hv hl hs
    go_enter Try.func21, Try.ntmps21
    go_wp2
    refine bodyPost_ret (v := .tuple #[.agg #[.int .i64 0, .int .i64 0, .string ⟨#[]⟩], .int .i64 0, .int .i64 3]) (by simp [results, Try.results21, go_sem]) rfl ⟨rfl, ?_⟩
    exact (Below.refl _ _).alloc (Nat.le_refl _) _
  | cons b t =>
    have hbl := b.toNat_lt
    have hsz := size_cons hl
    have hne : s.toList.isEmpty = false := by rw [ByteArray.toList_eq, hl]; rfl
    have hix0 := str_index s 0 0 rfl (by omega)
    have hba : byteAt s.data.toList 0 = b.toNat := (drop_cons (a := 0) (by rw [List.drop_zero]; exact hl)).2.1
    rw [hba] at hix0
    clear hba
    rw [← hl]
    by_cases q1 : b.toNat = 34
    · have c1 : ((b.toNat : Int) == 34) = true := by simp; omega
      have hq : b = 34 := byte_ext (n := 34) q1 (by decide)
      have HC := Lib.hid (fun w => text41 s t w hs (by rw [hl, hq]))
      clear hl hq q1
      generalize parseR s.data.toList = pr at HC ⊢
      obtain ⟨k, n, tx, a, e⟩ := pr
      unfold pVal at HC ⊢
      simp only at HC ⊢
      go_enter Try.func21, Try.ntmps21
      go_wp2_with fail
      refine (HC.out _).mono ?_
      rintro e w2 ⟨rfl, hb2⟩
      have hbe2 := below_new hb2
      obtain ⟨p0, p1, p2, f0, f1, f2⟩ := res1 hbe2
      go_wp2
      refine bodyPost_ret (v := .tuple #[.agg #[.int .i64 k, .int .i64 n, .string tx], .int .i64 a, .int .i64 e]) (by simp [results, Try.results21, go_sem, p0, p1, p2]) rfl ⟨rfl, ?_⟩
      exact below_res hbe2 _ _ _
    · have c1 : ((b.toNat : Int) == 34) = false := by simp; omega
      by_cases q2 : b.toNat = 45 ∨ isDig b.toNat
      · have HC := Lib.hid (fun w => number43 s b t w hs hl q2)
        clear hl
        generalize parseR s.data.toList = pr at HC ⊢
        obtain ⟨k, n, tx, a, e⟩ := pr
        unfold pVal at HC ⊢
        simp only at HC ⊢
        by_cases q3 : b.toNat = 45
        · have c2 : ((b.toNat : Int) == 45) = true := by simp; omega
          clear q1 q2 q3
          go_enter Try.func21, Try.ntmps21
          go_wp2_with fail
          refine (HC.out _).mono ?_
          rintro e w2 ⟨rfl, hb2⟩
          have hbe2 := below_new hb2
          obtain ⟨p0, p1, p2, f0, f1, f2⟩ := res1 hbe2
          go_wp2
          refine bodyPost_ret (v := .tuple #[.agg #[.int .i64 k, .int .i64 n, .string tx], .int .i64 a, .int .i64 e]) (by simp [results, Try.results21, go_sem, p0, p1, p2]) rfl ⟨rfl, ?_⟩
          exact below_res hbe2 _ _ _
        · have c2 : ((b.toNat : Int) == 45) = false := by simp; omega
          have HD := Lib.hid (digit42 b.toNat true (decide_eq_true (q2.resolve_left q3)))
          clear q1 q2 q3
          go_enter Try.func21, Try.ntmps21
          go_wp2_with (go_at_call 42; go_must (refine (HD.out _).mono ?_); rintro e w' ⟨rfl, rfl⟩)
          refine (HC.out _).mono ?_
          rintro e w2 ⟨rfl, hb2⟩
          have hbe2 := below_new hb2
          obtain ⟨p0, p1, p2, f0, f1, f2⟩ := res1 hbe2
          go_wp2
          refine bodyPost_ret (v := .tuple #[.agg #[.int .i64 k, .int .i64 n, .string tx], .int .i64 a, .int .i64 e]) (by simp [results, Try.results21, go_sem, p0, p1, p2]) rfl ⟨rfl, ?_⟩
          exact below_res hbe2 _ _ _
      · have q3 : ¬ b.toNat = 45 := fun h => q2 (.inl h)
        have q4 : ¬ isDig b.toNat := fun h => q2 (.inr h)
        have c2 : ((b.toNat : Int) == 45) = false := by simp; omega
        have HD := Lib.hid (digit42 b.toNat false (decide_eq_false q4))
        have hv : Value.tuple #[.agg #[.int .i64 0, .int .i64 0, .string ⟨#[]⟩], .int .i64 0, .int .i64 4] = pVal (parseR s.data.toList) := by
          rw [parse_run', hl, run_one (by simp [R0])]
          rw [show readR R0 b.toNat = none by
            unfold isDig at q4
            simp only [readR, R0, readFirstR, readDigitR]
            rw [if_pos trivial, if_neg (by omega), if_neg (by omega), if_neg (by omega), if_pos (by omega)]]
          rfl
        rw [← hv]
        clear hv hl q1 q2 q3 q4
        go_enter Try.func21, Try.ntmps21
        go_wp2_with (go_at_call 42; go_must (refine (HD.out _).mono ?_); rintro e w' ⟨rfl, rfl⟩)
        refine bodyPost_ret (v := .tuple #[.agg #[.int .i64 0, .int .i64 0, .string ⟨#[]⟩], .int .i64 0, .int .i64 4]) (by simp [results, Try.results21, go_sem]) rfl ⟨rfl, ?_⟩
        exact (Below.refl _ _).alloc (Nat.le_refl _) _
end Go.Proofs.Ytapfhonapejpjaa
