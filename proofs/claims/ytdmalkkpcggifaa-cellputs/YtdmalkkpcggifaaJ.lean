/-
  The contract of readBase. No condition but bounds on lengths.
-/
import Derived.Test.YtdmalkkpcggifaaI
import Derived.Laws.Bits64b
import Derived.Laws.BitsAllLaws
namespace Go.Proofs.Ytdmalkkpcggifaa
open Go.RowKit

theorem size_data (s : ByteArray) : s.data.toList.length = s.size := by cases s; rfl

set_option maxHeartbeats 400000 in
theorem readBase42_short (R p width most : Nat) (begin : Int) (s : ByteArray) (w : World) (h : RdAt w R s p) (hp : p ≤ s.size) (hn : s.size < p + width) (hw : width ≤ 8) :
    Calls Try.prog 42 #[.pointer (some ⟨R, 0, none⟩), .int .i64 begin, .agg #[.int .i64 width, .int .u64 most]] w fun e w' => Fails s.size 3 e ∧ w.grownBy w' (some R) := by
  have HC := Lib.hid (readBytes41_short R p width s (w.alloc (.cells #[.int .i64 width, .int .u64 most] 85)) (h.alloc _) hp hn (by omega))
  clear h
  go_enter Try.func42, Try.ntmps42
  go_wp2_with fail
  refine HC.out.mono ?_
  rintro e w' ⟨rfl, hg⟩
  exact ⟨rfl, rfl, grown_trans (World.grownBy_alloc w _ _) hg⟩

/-- What readBase comes to. -/
def BaseTo (R p width most : Nat) (begin : Int) (s : ByteArray) (l : List UInt8) (w : World) (e : Ending) (w' : World) : Prop :=
  w.grownBy w' (some R) ∧ if ((match l with | [] => false | b :: _ => decide (b.toNat = 0)) || decide (most < beN l)) = true then Fails begin 4 e else e = .returned (.int .i64 (beN l : Nat)) ∧ RdAt w' R s (p + width)

theorem or_byte (x b : Nat) (hx : x < 72057594037927936) (hb : b < 256) : bits BinOp.or IntKind.u64 (IntKind.u64.wrap ((x : Int) * 256)) (IntKind.u64.wrap (b : Int)) = ((x * 256 + b : Nat) : Int) := by
  rw [IntWalk.u64_in _ (by omega), IntWalk.u64_in _ (by omega)]
  have e : ((x : Int) * 256) = ((x * 256 : Nat) : Int) := by omega
  rw [e, bits_or_u64_nat _ _ (by omega) (by omega)]
  congr 1
  have := Nat.shiftLeft_add_eq_or_of_lt (show b < 2 ^ 8 by omega) x
  rw [Nat.shiftLeft_eq, show (2 : Nat) ^ 8 = 256 from rfl] at this
  omega

theorem beN_take_succ (l : List UInt8) (i : Nat) (h : i < l.length) : beN (l.take (i + 1)) = beN (l.take i) * 256 + l[i].toNat := by
  rw [List.take_succ_eq_append_getElem h, beN_snoc]

set_option maxRecDepth 10000 in
set_option maxHeartbeats 1000000 in
theorem readBase42 (R p width most : Nat) (begin : Int) (s : ByteArray) (w : World) (h : RdAt w R s p) (hp : p + width ≤ s.size) (hs : s.size ≤ 1000000000) (hw : width ≤ 8) (hm : most < 9223372036854775808) (l : List UInt8) (hl : (s.data.toList.drop p).take width = l) :
    Calls Try.prog 42 #[.pointer (some ⟨R, 0, none⟩), .int .i64 begin, .agg #[.int .i64 width, .int .u64 most]] w (BaseTo R p width most begin s l w) := by
  have HC := Lib.hid (readBytes41 R p width s (w.alloc (.cells #[.int .i64 width, .int .u64 most] 85)) (h.alloc _) hp hs)
  have hRl := h.lt
  have hll : l.length = width := by
    rw [← hl, List.length_take, List.length_drop, size_data]
    omega
  have HLL := Lib.hid hll
  obtain ⟨t, hct, hsz, hti⟩ : ∃ t, cutS s p width = t ∧ t.size = width ∧ ∀ i (h1 : i < t.size) (h2 : i < l.length), t[i] = l[i] := ⟨⟨l.toArray⟩, by unfold cutS; rw [hl], hll, fun _ _ _ => rfl⟩
  rw [hct] at HC
  have HTI := Lib.hid hti
  clear h hl hp hs hct hti hll
  go_enter Try.func42, Try.ntmps42
  go_wp2_with fail
  refine HC.out.mono ?_
  rintro e w' ⟨rfl, hr, hg⟩
  have HR := Lib.hid hr
  have HG := Lib.hid (grown_trans (World.grownBy_alloc w _ _) hg)
  have hne : some w.heap.size ≠ some R := fun e => by injection e with e; omega
  have b0 : w'.cell? ⟨w.heap.size, 0, none⟩ = some (.int .i64 width) := hg.cell (a := ⟨w.heap.size, 0, none⟩) (World.cell?_alloc_at _ 85 _ _ rfl) hne
  have b1 : w'.cell? ⟨w.heap.size, 1, none⟩ = some (.int .u64 most) := hg.cell (a := ⟨w.heap.size, 1, none⟩) (World.cell?_alloc_at _ 85 _ _ rfl) hne
  clear hr hg hne HC
  go_wp2_with fail
  go_loop [8, 16] (fun s8 s16 => ∃ (i x : Nat), i ≤ width ∧ s8 = .int .u64 x ∧ s16 = .int .i64 i ∧ Hid (beN (l.take i) = x)) (fun _ s16 => width - (intOf s16).toNat)
  case atStart => exact ⟨0, 0, Nat.zero_le _, rfl, rfl, rfl⟩
  case round =>
    obtain ⟨i, x, hi, rfl, rfl, HX⟩ := hrel
    by_cases hlt : i < width
    · have hx := beN_lt (l.take i)
      rw [HX.out, List.length_take] at hx
      have hx2 : x < 72057594037927936 := Nat.lt_of_lt_of_le hx (show 256 ^ _ ≤ 256 ^ 7 from Nat.pow_le_pow_right (by omega) (by omega))
      have HN : Hid (beN (l.take (i + 1)) = x * 256 + (t[i]'(by omega)).toNat) := by
        unfold Hid
        rw [beN_take_succ l i (by have := HLL.out; omega), HX.out, HTI.out i _ _]
      have hor := or_byte x (t[i]'(by omega)).toNat hx2 (UInt8.toNat_lt _)
      clear hx hx2 HX
      go_wp2_with fail
      go_round
      case rel => exact ⟨i + 1, _, by omega, rfl, by go_num, HN.out⟩
      case measure => simp [intOf]; omega
    · have hiw : i = width := by omega
      have hx : beN l = x := by rw [← HX.out, hiw, List.take_of_length_le (by have := HLL.out; omega)]
      have hx' : x < 9223372036854775808 ∨ most < x := by omega
      clear HX
      have HB : Hid (∀ b, ((match l with | [] => false | b :: _ => decide (b.toNat = 0)) || decide (most < beN l)) = b → BaseTo R p width most begin s l w (if b = true then .panicked [{ v := failV begin 4, recovered := false }] else .returned (.int .i64 (x : Nat))) w') := by
        intro b hb
        refine ⟨HG.out, ?_⟩
        rw [hb, hx]
        cases b with
        | true => rfl
        | false => exact ⟨rfl, HR.out⟩
      have HXX := Lib.hid hx
      clear hx
      by_cases hw0 : width = 0
      · have hl0 : l = [] := List.length_eq_zero_iff.1 (by have := HLL.out; omega)
        have hx0 : x = 0 := by rw [← HXX.out, hl0]; rfl
        have he := HB.out false (by rw [hl0]; simp [beN])
        rw [hl0, hw0, hx0] at he
        have HE := Lib.hid he
        subst hx0
        have hw1 : ¬ (0 : Int) < (width : Int) := by omega
        clear HB hx' he
        go_wp2_with fail
        go_ret
        exact HE.out
      · have hw1 : (0 : Int) < (width : Int) := by omega
        have h0 : t[0]'(by omega) = l[0]'(by have := HLL.out; omega) := HTI.out 0 _ _
        obtain ⟨c, l', hc⟩ : ∃ c l', l = c :: l' := by
          cases l with
          | nil => have := HLL.out; simp at this; omega
          | cons c l' => exact ⟨c, l', rfl⟩
        have h0' : t[0]'(by omega) = c := by rw [h0]; simp [hc]
        by_cases hz : c.toNat = 0
        · have hzz : (((t[0]'(by omega)).toNat : Int) == 0) = true := by rw [h0', hz]; rfl
          have HE := Lib.hid (HB.out true (by rw [hc]; simp only [hz]; rfl))
          clear HB h0 h0' hx' hc
          go_wp2_with fail
          exact ⟨rfl, HE.out⟩
        · have hzz : (((t[0]'(by omega)).toNat : Int) == 0) = false := by rw [h0']; simp; omega
          by_cases hmx : most < x
          · have HE := Lib.hid (HB.out true (by rw [HXX.out]; simp [hmx]))
            clear HB h0 h0' hx' hc
            go_wp2_with fail
            exact ⟨rfl, HE.out⟩
          · have HE := Lib.hid (HB.out false (by rw [HXX.out, hc]; simp [hmx]; simpa using hz))
            have hxl : x < 9223372036854775808 := by omega
            clear HB h0 h0' hx' hc
            go_wp2_with fail
            go_ret
            exact HE.out
end Go.Proofs.Ytdmalkkpcggifaa
