/-
  The document's example holds; the walk of TapeNil. No condition.
-/
import Derived.Test.YtelfomdlbldnpaaDoorYO
namespace Go.Proofs.YtelfomdlbldnpaaDoor
open Go.RowKit

theorem ints_lit (w : World) (l : List Int) : IntsAt (w.alloc (.cells (l.map (Value.int .i64)).toArray 3)) (w.heap.size + 1) (.slice (some ⟨w.heap.size, 0, none⟩) l.length l.length) l := by
  refine ⟨_, _, rfl, fun _ => ⟨w.heap.size, 0, rfl, by omega, fun i hi => ?_⟩⟩
  rw [Nat.zero_add]
  exact cell_row (heap_alloc_new w _) (by simp [hi])
theorem strs_lit (w : World) (s : ByteArray) : StrsAt (w.alloc (.cells #[.string s] 9)) (.slice (some ⟨w.heap.size, 0, none⟩) 1 1) [s] :=
  ⟨rfl, .inr ⟨w.heap.size, 1, _, rfl, Nat.zero_le _, heap_alloc_new w _, Nat.le_refl _, by unfold maxLen; omega, rfl, rfl⟩⟩
theorem one_byte {l : List ByteArray} (h : l.map (·.data.toList) = [[97]]) : l = [⟨#[97]⟩] := by
  cases l with
  | nil => simp at h
  | cons a t =>
    rw [List.map_cons] at h
    injection h with h1 h2
    have ht : t = [] := by cases t with | nil => rfl | cons _ _ => simp at h2
    rw [ht, eq_mkB h1]
    rfl
/-- Two drums apart. -/
theorem crash_apart {w : World} {F G : Nat → Prop} {b c : Nat} {d e : D} (hb : PAt w F b d) (hc : PAt w G c e) (hd : ∀ k, F k → ¬ G k) (hw : d.W.length ≤ 1000000) (l : List Int) (lv : Value) (hl : IntsAt w w.heap.size lv l) (hll : l.length ≤ 1000000) :
    Calls Tryd.prog 21 #[.pointer (some ⟨b, 0, none⟩), lv] w fun x w' => x = .returned (.int .i64 0) ∧ PAt w' F b (crashD d l) ∧ PAt w' G c e ∧ Turn F w w' :=
  (crash16 hb hw l lv hl hll).mono fun _ _ ⟨he, hP', hT⟩ => ⟨he, hP', hc.keep hT (fun k hg hf => hd k hf hg), hT⟩

set_option maxRecDepth 100000 in
set_option maxHeartbeats 4000000 in
theorem lives8 (w : World) : Calls Tryd.prog 8 #[] w fun e w' => e = .returned (.bool true) ∧ Below w.heap.size w w' := by
  have hx := exChk_true
  unfold exChk at hx
  simp only [Bool.and_eq_true, decide_eq_true_eq] at hx
  obtain ⟨⟨⟨⟨⟨⟨⟨⟨⟨⟨⟨⟨⟨x1, x2⟩, x3⟩, x4⟩, x5⟩, x6⟩, x7⟩, x8⟩, x9⟩, x10⟩, x11⟩, x12⟩, x13⟩, x14⟩ := hx
  have H1 := Lib.hid x1
  have H2 := Lib.hid x2
  have H3 := Lib.hid x3
  have H4 := Lib.hid x4
  have H5 := Lib.hid x5
  have H6 := Lib.hid x6
  have H7 := Lib.hid x7
  have H8 := Lib.hid x8
  have H9 := Lib.hid x9
  have H10 := Lib.hid x10
  have H11 := Lib.hid x11
  have H12 := Lib.hid x12
  have H13 := Lib.hid x13
  have H14 := Lib.hid x14
  clear x1 x2 x3 x4 x5 x6 x7 x8 x9 x10 x11 x12 x13 x14
  have HN : Hid (Calls Tryd.prog 9 #[.int .i64 8] w fun e w' => ∃ b, e = .returned (.tuple #[.pointer (some ⟨b, 0, none⟩), .int .i64 0]) ∧ PN w w' b e0) := newN 8 (by omega) (by omega) w
  go_enter Tryd.func8, Tryd.ntmps8
  go_wp2_with fail
  refine HN.out.mono ?_
  rintro e w1 ⟨b, rfl, hP⟩
  have HO := Lib.hid (openN hP (by show ([] : List (Nat × ByteArray)).length ≤ _; simp) H1.out)
  clear hP HN
  go_wp2_with fail
  refine HO.out.mono ?_
  rintro e w2 ⟨bt, bl, v, rfl, hT, ho, -⟩
  obtain ⟨vA, vc, rfl⟩ := row_slice ho
  rw [H2.out]
  have HA := Lib.hid (appendN hT (by show ([] : List (Nat × ByteArray)).length + 4096 ≤ _; simp) (by have := hT.okT.c; have h : (openT e0).count = 0 := H2.out; omega) bA (by show 1 ≤ _; omega))
  have ha : appE (openT e0) e0 bA = 0 := H3.out
  rw [ha] at HA
  unfold bA at HA
  clear hT ho HO ha
  go_wp2_with fail
  refine HA.out.mono ?_
  rintro e w3 ⟨rfl, hT⟩
  have hT : TN w w3 bt bl b e1 f1 := hT
  have HB := Lib.hid (appendN hT (by have := H8.out; omega) (by have := H10.out; omega) bB (by show 1 ≤ _; omega))
  rw [H4.out] at HB
  unfold bB at HB
  clear hT HA
  go_wp2_with fail
  refine HB.out.mono ?_
  rintro e w4 ⟨rfl, hT⟩
  have hT : TN w w4 bt bl b e2 f2 := hT
  have HT4 := Lib.hid hT
  have HL := Lib.hid (lenT hT)
  rw [H5.out] at HL
  clear hT HB
  go_wp2_with fail
  refine HL.out.mono ?_
  rintro e w' ⟨rfl, rfl⟩
  have HR := Lib.hid (roomT HT4.out)
  rw [H7.out] at HR
  clear HL
  go_wp2_with fail
  refine HR.out.mono ?_
  rintro e w5 ⟨rfl, hb5⟩
  have HT5 := Lib.hid (HT4.out.below hb5)
  have HLI := Lib.hid (lifeT HT5.out)
  rw [H6.out] at HLI
  clear HR hb5 HT4
  go_wp2_with fail
  refine HLI.out.mono ?_
  rintro e w' ⟨rfl, rfl⟩
  obtain ⟨F, hP, hF, hB5⟩ := HT5.out.pn
  have HC := Lib.hid (copy11 hP (by have := H9.out; omega))
  clear HLI HT5
  go_wp2_with fail
  refine HC.out.mono ?_
  rintro e w6 ⟨rfl, hPc, hb6⟩
  have hP6 := hP.below hb6
  have hapart : ∀ k, New w5 w6 k → ¬ F k := fun k hk hf => by have := hP.lt k hf; have := hk.1; omega
  have hl6 : Below w6.heap.size w6 (w6.alloc (.cells #[.int .i64 1] 3)) := (Below.refl _ _).alloc (Nat.le_refl _) _
  have HK := Lib.hid (crash_apart (hPc.below hl6) (hP6.below hl6) hapart (by have := H9.out; omega) [1] _ (by have := ints_lit w6 [1]; simpa using this) (by simp))
  have HB6 := Lib.hid (hB5.trans (hb6.mono hB5.size))
  have HF := Lib.hid hF
  have HAP := Lib.hid hapart
  have hs5 : w.heap.size ≤ w5.heap.size := hB5.size
  have hs6 := hl6.size
  clear hP hF hB5 hPc hb6 hP6 hapart HC
  go_wp2_with fail
  refine HK.out.mono ?_
  rintro e w7 ⟨rfl, hPc, hP7, hT7⟩
  have hl7 : Below w7.heap.size w7 (w7.alloc (.cells #[.int .i64 0] 3)) := (Below.refl _ _).alloc (Nat.le_refl _) _
  have HK2 := Lib.hid (crash_apart (hP7.below hl7) (hPc.below hl7) (fun k hf hk => HAP.out k hk hf) (by have := H9.out; omega) [0] _ (by have := ints_lit w7 [0]; simpa using this) (by simp))
  have HB7 : Hid (Below w.heap.size w w7) := (HB6.out.trans (hl6.mono HB6.out.size)).trans (hT7.below _ (Nat.le_trans HB6.out.size hl6.size) (fun k hk => by have := hk.1; omega))
  clear hPc hP7 hT7 HK hs6 hl6 HB6
  go_wp2_with fail
  refine HK2.out.mono ?_
  rintro e w8 ⟨rfl, hP8, hPc8, hT8⟩
  have HB8 : Hid (Below w.heap.size w w8) := (HB7.out.trans (hl7.mono HB7.out.size)).trans (hT8.below _ (Nat.le_trans HB7.out.size hl7.size) (fun k hk => HF.out k hk))
  have HS1 := Lib.hid (scanP hPc8 (by show ([] : List (Nat × ByteArray)).length ≤ _; simp))
  have HP8 := Lib.hid hP8
  simp only [show (crashD e2 [1]).gone = false from rfl, Bool.false_eq_true, if_false, H11.out] at HS1
  clear hP8 hPc8 hT8 HK2 HB7 hl7
  go_wp2_with fail
  refine HS1.out.mono ?_
  rintro e w9 ⟨hb9, v9, rfl, ho9⟩
  obtain ⟨vA9, vc9, rfl⟩ := row_slice ho9
  have HS2 := Lib.hid (scanP (HP8.out.below hb9) (by show ([] : List (Nat × ByteArray)).length ≤ _; simp))
  simp only [show (crashD e2 [0]).gone = false from rfl, Bool.false_eq_true, if_false, H13.out, H14.out] at HS2
  have HB9 : Hid (Below w.heap.size w w9) := HB8.out.trans (hb9.mono HB8.out.size)
  clear hb9 ho9 HP8 HS1 HB8
  go_wp2_with fail
  refine HS2.out.mono ?_
  rintro e w10 ⟨hb10, v10, rfl, ho10⟩
  have HB10 : Hid (Below w.heap.size w w10) := HB9.out.trans (hb10.mono HB9.out.size)
  have hrec : (scanD (crashD e2 [0])).recs = [⟨#[97]⟩] := one_byte H12.out
  rw [hrec] at ho10
  have hs10 : StrsAt w10 v10 [⟨#[97]⟩] := row_base ho10 (Nat.zero_le _)
  have hb11 : Below w10.heap.size w10 (w10.alloc (.cells #[.string ⟨#[97]⟩] 9)) := (Below.refl _ _).alloc (Nat.le_refl _) _
  have HSM := Lib.hid (same16 (hs10.below hb11) (strs_lit w10 ⟨#[97]⟩) (by simp))
  obtain ⟨vA10, vc10, rfl⟩ := row_slice ho10
  simp only [decide_true] at HSM
  have HB11 : Hid (Below w.heap.size w (w10.alloc (.cells #[.string ⟨#[97]⟩] 9))) := HB10.out.trans (hb11.mono HB10.out.size)
  have HN1 := Lib.hid (need17 51 (by omega) (by omega))
  have HN2 := Lib.hid (need17 52 (by omega) (by omega))
  clear hb10 ho10 hs10 hrec HS2 HB9 HB10 hb11
  go_wp2_with fail
  refine HSM.out.mono ?_
  rintro e w12 ⟨rfl, n12, rfl⟩
  go_wp2_with fail
  refine (HN1.out _).mono ?_
  rintro e w' ⟨rfl, rfl⟩
  go_wp2_with fail
  refine (HN2.out _).mono ?_
  rintro e w' ⟨rfl, rfl⟩
  go_wp2
  go_ret
  exact ⟨rfl, below_drewN HB11.out _⟩

set_option maxRecDepth 100000 in
set_option maxHeartbeats 2000000 in
theorem nil6 (s : ByteArray) (made : Bool) (w : World) : Calls Tryd.prog 6 #[.string s, .bool made] w fun e w' => e = .returned (.bool true) ∧ Below w.heap.size w w' := by
  by_cases hs : s.size ≤ 1000
  · have hs' : ¬ (1000 : Int) < (s.size : Int) := by omega
    cases made with
    | true =>
      have hb0 : Below w.heap.size w (w.alloc (.cells #[.pointer none] 60)) := (Below.refl _ _).alloc (Nat.le_refl _) _
      have hc0 : (w.alloc (.cells #[.pointer none] 60)).cell? ⟨w.heap.size, 0, none⟩ = some (.pointer none) := cell_row (heap_alloc_new w _) rfl
      have HC : Hid (∀ w', Below (w.alloc (.cells #[.pointer none] 60)).heap.size (w.alloc (.cells #[.pointer none] 60)) w' → TNot (.pointer (some ⟨w.heap.size, 0, none⟩)) w') := fun w' hb => tNot_zero w' _ (by rw [hb.cell (p := ⟨w.heap.size, 0, none⟩) (by simp)]; exact hc0)
      have HO := Lib.hid (openNil (w.alloc (.cells #[.pointer none] 60)))
      have HB0 := Lib.hid hb0
      clear hb0 hc0 hs
      go_enter Tryd.func6, Tryd.ntmps6
      go_wp2_with fail
      refine HO.out.mono ?_
      rintro e w1 ⟨rfl, hb1⟩
      have HS := Lib.hid (scanNil w1)
      have HB1 := Lib.hid hb1
      clear hb1 HO
      go_wp2_with fail
      refine HS.out.mono ?_
      rintro e w2 ⟨hb2, rfl⟩
      have HB2 : Hid (Below (w.alloc (.cells #[.pointer none] 60)).heap.size (w.alloc (.cells #[.pointer none] 60)) w2) := HB1.out.trans (hb2.mono HB1.out.size)
      have HT := Lib.hid (HC.out _ HB2.out)
      have HLV := Lib.hid (lives8 w2)
      clear hb2 HS HB1 HC
      go_wp2_with (first | (go_at_call 26; refine (append26_no HT.out s).mono ?_; rintro e w' ⟨rfl, rfl⟩) | (go_at_call 20; refine (settle20_no HT.out).mono ?_; rintro e w' ⟨rfl, rfl⟩) | (go_at_call 25; refine (len25_no HT.out).mono ?_; rintro e w' ⟨rfl, rfl⟩) | (go_at_call 23; refine (life23_no HT.out).mono ?_; rintro e w' ⟨rfl, rfl⟩) | (go_at_call 27; refine (room27_no HT.out).mono ?_; rintro e w' ⟨rfl, rfl⟩) | (go_at_call 8; refine HLV.out.mono ?_; rintro e w3 ⟨rfl, hb3⟩; have HB3 := Lib.hid hb3; clear hb3))
      go_ret
      exact ⟨rfl, (HB0.out.trans (HB2.out.mono HB0.out.size)).trans (HB3.out.mono (HB0.out.trans (HB2.out.mono HB0.out.size)).size)⟩
    | false =>
      have HO := Lib.hid (openNil w)
      clear hs
      go_enter Tryd.func6, Tryd.ntmps6
      go_wp2_with fail
      refine HO.out.mono ?_
      rintro e w1 ⟨rfl, hb1⟩
      have HS := Lib.hid (scanNil w1)
      have HB1 := Lib.hid hb1
      clear hb1 HO
      go_wp2_with fail
      refine HS.out.mono ?_
      rintro e w2 ⟨hb2, rfl⟩
      have HB2 : Hid (Below w.heap.size w w2) := HB1.out.trans (hb2.mono HB1.out.size)
      have HT := Lib.hid (tNot_nil w2)
      have HLV := Lib.hid (lives8 w2)
      clear hb2 HS HB1
      go_wp2_with (first | (go_at_call 26; refine (append26_no HT.out s).mono ?_; rintro e w' ⟨rfl, rfl⟩) | (go_at_call 20; refine (settle20_no HT.out).mono ?_; rintro e w' ⟨rfl, rfl⟩) | (go_at_call 25; refine (len25_no HT.out).mono ?_; rintro e w' ⟨rfl, rfl⟩) | (go_at_call 23; refine (life23_no HT.out).mono ?_; rintro e w' ⟨rfl, rfl⟩) | (go_at_call 27; refine (room27_no HT.out).mono ?_; rintro e w' ⟨rfl, rfl⟩) | (go_at_call 8; refine HLV.out.mono ?_; rintro e w3 ⟨rfl, hb3⟩; have HB3 := Lib.hid hb3; clear hb3))
      go_ret
      exact ⟨rfl, HB2.out.trans (HB3.out.mono HB2.out.size)⟩
  · have hs' : (1000 : Int) < (s.size : Int) := by omega
    have HLV := Lib.hid (lives8 w)
    clear hs
    go_enter Tryd.func6, Tryd.ntmps6
    go_wp2_with (go_at_call 8; refine HLV.out.mono ?_; rintro e w3 ⟨rfl, hb3⟩; have HB3 := Lib.hid hb3; clear hb3)
    go_ret
    exact ⟨rfl, HB3.out⟩
end Go.Proofs.YtelfomdlbldnpaaDoor
