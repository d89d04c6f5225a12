/-
  The contract of the document's base. No condition but bounds on lengths.
-/
import Derived.Test.YtdmalkkpcggifaaT
namespace Go.Proofs.Ytdmalkkpcggifaa
open Go.RowKit

def badM (most : Nat) (l : List UInt8) : Bool := (match l with | [] => false | b :: _ => decide (b.toNat = 0)) || decide (most < beN l)
theorem beN_take_le (l : List UInt8) : ∀ (j i : Nat), i + j = l.length → beN (l.take i) ≤ beN l := by
  intro j
  induction j with
  | zero => intro i h; rw [List.take_of_length_le (by omega)]; exact Nat.le_refl _
  | succ j ih =>
    intro i h
    have h1 := ih (i + 1) (by omega)
    have h2 := beN_take_succ l i (by omega)
    omega

set_option maxRecDepth 10000 in
set_option maxHeartbeats 1000000 in
theorem base44 (s : ByteArray) (p n most : Nat) (w : World) (hp : p + n ≤ s.size) (hs : s.size ≤ 1000000000) (hm0 : 255 ≤ most) (hm1 : most < 9223372036854775808) (l : List UInt8) (hl : (s.data.toList.drop p).take n = l) :
    Calls Try.prog 44 #[.string s, .int .i64 p, .int .i64 n, .int .i64 most] w fun e w' => e = .returned (.tuple #[.int .i64 (if badM most l = true then 0 else (beN l : Nat)), .bool (!badM most l)]) ∧ w = w' := by
  have hll : l.length = n := by
    rw [← hl, List.length_take, List.length_drop, size_data]
    omega
  have HTI : Hid (∀ i (h1 : p + i < s.size) (h2 : i < l.length), s[p + i] = l[i]) := by
    intro i h1 h2
    subst hl
    rw [List.getElem_take, List.getElem_drop]
    show s.data[p + i] = _
    rw [Array.getElem_toList]
  have HLL := Lib.hid hll
  obtain ⟨v, hv⟩ : ∃ v : Int, (if badM most l = true then (0 : Int) else ((beN l : Nat) : Int)) = v := ⟨_, rfl⟩
  obtain ⟨bd, hbd⟩ : ∃ bd, badM most l = bd := ⟨_, rfl⟩
  rw [hv, hbd]
  rw [hbd] at hv
  have HV := Lib.hid hv
  have HBD := Lib.hid hbd
  clear hl hll hv hbd
  go_enter Try.func44, Try.ntmps44
  go_wp2_with fail
  go_loop [10, 11] (fun s10 s11 => ∃ (i x : Nat), i ≤ n ∧ s10 = .int .i64 x ∧ s11 = .int .i64 i ∧ x ≤ most ∧ Hid (beN (l.take i) = x) ∧ Hid (0 < i → ∀ b l', l = b :: l' → b.toNat ≠ 0)) (fun _ s11 => n - (intOf s11).toNat)
  case atStart => exact ⟨0, 0, Nat.zero_le _, rfl, rfl, by omega, rfl, fun h => by omega⟩
  case round =>
    obtain ⟨i, x, hi, rfl, rfl, hxm, HX, H0⟩ := hrel
    by_cases hlt : i < n
    · have hti := HTI.out i (by omega) (by have := HLL.out; omega)
      have hstep := beN_take_succ l i (by have := HLL.out; omega)
      have hle := beN_take_le l (n - (i + 1)) (i + 1) (by have := HLL.out; omega)
      obtain ⟨b, hb⟩ : ∃ b : Nat, (s[p + i]'(by omega)).toNat = b := ⟨_, rfl⟩
      have hb8 : b < 256 := by rw [← hb]; exact UInt8.toNat_lt _
      rw [HX.out, ← hti, hb] at hstep
      have hfirst : i = 0 → ∀ c l', l = c :: l' → c.toNat = b := by
        intro h0 c l' hc
        subst h0
        rw [← hb, hti]
        simp [hc]
      have hbI : ((s[p + i]'(by omega)).toNat : Int) = (b : Int) := by rw [hb]
      have HFI := Lib.hid hfirst
      have HST := Lib.hid hstep
      have HLE := Lib.hid hle
      have hdv : ((most : Int) - (b : Int)).tdiv 256 = ((most : Int) - (b : Int)) / 256 := Int.tdiv_eq_ediv_of_nonneg (by omega)
      have hw1 : IntKind.i64.wrap (((most : Int) - (b : Int)) / 256) = ((most : Int) - (b : Int)) / 256 := IntWalk.i64_in _ (by omega)
      clear hti hstep hle hb hfirst
      by_cases hz : i = 0 ∧ b = 0
      · have hq : bd = true := by
          rw [← HBD.out]
          unfold badM
          cases hc : l with
          | nil => have := HLL.out; rw [hc] at this; simp at this; omega
          | cons c l' =>
            have := HFI.out hz.1 c l' hc
            simp [this, hz.2]
        subst hq
        have hv0 : v = 0 := HV.out.symm
        subst hv0
        have hi1 : ((i : Int) == 0) = true := beq_iff_eq.2 (by omega)
        have hb0 : ((b : Int) == 0) = true := beq_iff_eq.2 (by omega)
        clear hz
        go_wp2_with fail
        go_ret2
        exact ⟨rfl, rfl⟩
      · by_cases hq : ((most : Int) - (b : Int)) / 256 < (x : Int)
        · have hbd : bd = true := by
            rw [← HBD.out]
            unfold badM
            have h1 := HST.out
            have h2 := HLE.out
            have : most < beN l := by omega
            simp [this]
          subst hbd
          have hv0 : v = 0 := HV.out.symm
          subst hv0
          by_cases hi0 : i = 0
          · have hi1 : ((i : Int) == 0) = true := beq_iff_eq.2 (by omega)
            have hb0 : ((b : Int) == 0) = false := beq_eq_false_iff_ne.2 (by omega)
            clear hz hi0
            go_wp2_with fail
            go_ret2
            exact ⟨rfl, rfl⟩
          · have hi1 : ((i : Int) == 0) = false := beq_eq_false_iff_ne.2 (by omega)
            go_wp2_with fail
            go_ret2
            exact ⟨rfl, rfl⟩
        · have HN : Hid (beN (l.take (i + 1)) = 256 * x + b) := by have := HST.out; unfold Hid; omega
          have hxn : 256 * x + b ≤ most := by omega
          have HF : Hid (0 < i + 1 → ∀ c l', l = c :: l' → c.toNat ≠ 0) := by
            intro _ c l' hc
            by_cases h0 : i = 0
            · rw [HFI.out h0 c l' hc]; omega
            · exact H0.out (by omega) c l' hc
          clear HV HBD HFI HST HLE HX
          by_cases hi0 : i = 0
          · have hi1 : ((i : Int) == 0) = true := beq_iff_eq.2 (by omega)
            have hb0 : ((b : Int) == 0) = false := beq_eq_false_iff_ne.2 (by omega)
            clear hz hi0
            go_wp2_with fail
            go_round
            case rel => exact ⟨i + 1, 256 * x + b, by omega, by go_num, by go_num, hxn, HN.out, HF.out⟩
            case measure => simp [intOf]; omega
          · have hi1 : ((i : Int) == 0) = false := beq_eq_false_iff_ne.2 (by omega)
            go_wp2_with fail
            go_round
            case rel => exact ⟨i + 1, 256 * x + b, by omega, by go_num, by go_num, hxn, HN.out, HF.out⟩
            case measure => simp [intOf]; omega
    · have hin : i = n := by omega
      have hx : beN l = x := by rw [← HX.out, hin, List.take_of_length_le (by have := HLL.out; omega)]
      have hbd : bd = false := by
        rw [← HBD.out]
        unfold badM
        rw [hx]
        cases hc : l with
        | nil => simp; omega
        | cons c l' =>
          have hn0 : 0 < i := by have := HLL.out; rw [hc] at this; simp at this; omega
          have := H0.out hn0 c l' hc
          simp only [Bool.or_eq_false_iff, decide_eq_false_iff_not]
          exact ⟨this, by omega⟩
      subst hbd
      have hv0 : v = (x : Int) := by rw [← HV.out, hx]; rfl
      subst hv0
      clear HV HBD HX
      go_wp2_with fail
      go_ret2
      exact ⟨rfl, rfl⟩
end Go.Proofs.Ytdmalkkpcggifaa
